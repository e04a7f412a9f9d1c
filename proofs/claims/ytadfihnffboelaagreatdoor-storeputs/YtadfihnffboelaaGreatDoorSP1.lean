import Derived.Test.YtadfihnffboelaaGreatDoorSR
import Derived.Test.YtadfihnffboelaaGreatDoorSA1
import Derived.Test.YtadfihnffboelaaGreatDoorC5
import Derived.Test.YtadfihnffboelaaGreatDoorSW1
import Derived.Test.YtadfihnffboelaaGreatDoorSG6
set_option linter.unusedVariables false
set_option linter.unusedSimpArgs false
set_option maxRecDepth 100000
namespace Go.Proofs.YtadfihnffboelaaGreatDoor
open Go.RowKit
structure Pz (B B' : Nat) (v vn : Value) (N : Int) (g gn : Nat) (os : List Ob) (nm : List ByteArray) (os2 : List Ob) (nm2 : List ByteArray) (F : Nat -> Prop) (vL : Value) (ls : List (Ob × Sl)) (vN : Value) (w : World) : Prop where
 pn : PN B v vn N os nm F w
 hn : HN B' g N vL ls gn vN nm2 w
 os2_ : ls.map Prod.fst = os2
 apart : ∀ b, F b -> ¬ HNF g vL ls gn vN b
section
variable {B B' : Nat} {v vn : Value} {N : Int} {g gn : Nat} {os os' os2 : List Ob} {nm nm' nm2 : List ByteArray} {F F' : Nat -> Prop} {vL : Value} {ls : List (Ob × Sl)} {vN : Value} {w w' : World}
theorem HN.keep (h : HN B' g N vL ls gn vN nm w) (hb : ∀ b, HNF g vL ls gn vN b -> w'.heap[b]? = w.heap[b]?) : HN B' g N vL ls gn vN nm w' := ⟨h.heap.keep (fun b e => hb b (.inl e)), h.names.keep (fun b e => hb b (.inr e)), h.apart⟩
theorem Pz.on (h : Pz B B' v vn N g gn os nm os2 nm2 F vL ls vN w) (hb : Below w.heap.size w w') : Pz B B' v vn N g gn os nm os2 nm2 F vL ls vN w' := ⟨h.pn.on hb, h.hn.on hb, h.os2_, h.apart⟩
theorem Pz.putP (h : Pz B B' v vn N g gn os nm os2 nm2 F vL ls vN w) (p : PN B v vn N os' nm' F' w') (q : ∀ b, F' b -> F b \/ w.heap.size <= b) (m : Mod F w w') : Pz B B' v vn N g gn os' nm' os2 nm2 F' vL ls vN w' :=
 ⟨p, h.hn.keep (fun b e => m.block b (h.hn.ge b e).2 (fun e1 => h.apart b e1 e)), h.os2_, fun b e1 e2 => by
  rcases q b e1 with e | e
  ·exact h.apart b e e2
  ·have := (h.hn.ge b e2).2; omega⟩
theorem Pz.putD {osn : List Ob} {nmn : List ByteArray} (h : Pz B B' v vn N g gn os nm os2 nm2 F vL ls vN w) (p : zfl B' g N (HNF g vL ls gn vN) gn w osn nmn w') : ∃ vL' ls' vN', Pz B B' v vn N g gn os nm osn nmn F vL' ls' vN' w' := by
 obtain ⟨vL', ls', vN', h1, h2, h3, h4⟩ := p
 refine ⟨vL', ls', vN', h.pn.keep (fun b e => h4.block b (h.pn.ge b e).2 (h.apart b e)), h1, h2, fun b e1 e2 => ?_⟩
 rcases h3 b e2 with e | e
 ·exact h.apart b e1 e
 ·have := (h.pn.ge b e1).2; omega
end
theorem zdx1 {W wx wy : World} {p o o1 : Nat} {a0 a1 : Value} (h : wx.cell? ⟨p, o, none⟩ = some a0 /\ wx.cell? ⟨p, o1, none⟩ = some a1 /\ Below W.heap.size W wx) (hb : Below wx.heap.size wx wy) : wy.cell? ⟨p, o, none⟩ = some a0 /\ wy.cell? ⟨p, o1, none⟩ = some a1 /\ Below W.heap.size W wy :=
 ⟨(hb.cell (p := ⟨p, o, none⟩) (jq h.1)).trans h.1, (hb.cell (p := ⟨p, o1, none⟩) (jq h.2.1)).trans h.2.1, Bt h.2.2 hb⟩
theorem zgz {W wx : World} {p o o1 : Nat} {a0 a1 : Value} (h : wx.cell? ⟨p, o, none⟩ = some a0 /\ wx.cell? ⟨p, o1, none⟩ = some a1 /\ Below W.heap.size W wx) : Below W.heap.size W wx := h.2.2
set_option maxHeartbeats 32000000 in
theorem zfw (n : Int) (al : Option Addr) (nl cl : Nat) (gs : List Gr) (w : World) (hZ : Z64 n) (R : GRow w al nl cl gs) (hT : vh w) :
  Calls Tryz.prog 3 #[.int .i64 n, .slice al nl cl] w fun e w' => e = .returned (.bool true) /\ Below w.heap.size w w' := by
 have HR := hid R
 have HT := hid hT
 have hf := R.fits
 have hm := R.most
 unfold maxLen at hm
 have CA : Hid (∀ wx, Below w.heap.size w wx -> _) := fun wx hb => zqr wx (vh.below hT hb)
 clear R hT
 by_cases h1 : n < 1
 ·have e1 : decide (n < 1) = true := decide_eq_true h1
  go_enter Tryz.func3, Tryz.ntmps3
  go_wp2_with (go_at_call 9; (with_reducible refine (CA.out w (Below.refl _ _)).mono ?_); rintro e W1 ⟨rfl, b1⟩)
  go_ret
  exact ⟨rfl, b1⟩
 have e1 : decide (n < 1) = false := decide_eq_false h1
 by_cases h2 : 3000 < n
 ·have e2 : decide (3000 < n) = true := decide_eq_true h2
  go_enter Tryz.func3, Tryz.ntmps3
  go_wp2_with (go_at_call 9; (with_reducible refine (CA.out w (Below.refl _ _)).mono ?_); rintro e W1 ⟨rfl, b1⟩)
  go_ret
  exact ⟨rfl, b1⟩
 have e2 : decide (3000 < n) = false := decide_eq_false h2
 by_cases h3 : 20 < nl
 ·have e3 : decide ((20 : Int) < (nl : Int)) = true := decide_eq_true (by omega)
  go_enter Tryz.func3, Tryz.ntmps3
  go_wp2_with (go_at_call 9; (with_reducible refine (CA.out w (Below.refl _ _)).mono ?_); rintro e W1 ⟨rfl, b1⟩)
  go_ret
  exact ⟨rfl, b1⟩
 have e3 : decide ((20 : Int) < (nl : Int)) = false := decide_eq_false (by omega)
 have CN : Hid (∀ wx, Calls Tryz.prog 10 #[.int .i64 n] wx fun e w' => ∃ v F, e = .returned (.tuple #[v, .int .i64 0]) /\ PH wx.heap.size v n [] F w' /\ Below wx.heap.size wx w') := fun wx => by
  refine (zuf n hZ wx).mono (fun e w' h => ?_)
  unfold NewP at h
  rw [if_neg (by omega)] at h
  exact h
 have CR : Hid (∀ wx, Calls Tryz.prog 11 #[.int .i64 n] wx fun e w' => ∃ g, e = .returned (.tuple #[.pointer (some ⟨g, 0, none⟩), .int .i64 0]) /\ wx.heap.size <= g /\ RH wx.heap.size g n (.slice none 0 0) [] w' /\ Below wx.heap.size wx w') := fun wx => by
  refine (zwi n hZ wx).mono (fun e w' h => ?_)
  rw [if_neg (by omega)] at h
  exact h
 go_enter Tryz.func3, Tryz.ntmps3
 go_wp2_with (first
  | (go_at_call 10; (with_reducible refine (CN.out w).mono ?_); rintro e W1 ⟨v, F1, rfl, hp1, b1⟩; have HP1 := hid hp1; have HB1 := hid b1; clear hp1 b1)
  | (go_at_call 11; (with_reducible refine (CR.out W1).mono ?_); rintro e W2 ⟨g, rfl, hg2, hr2, b2⟩; have HG2 := hid hg2; have HR2 := hid hr2; have HB2 := hid b2; clear hg2 hr2 b2)
  | (go_at_call 12; (with_reducible refine (zgt W2).mono ?_); rintro e W3 ⟨vn, F2, rfl, hp3, b3⟩; have HP3 := hid hp3; have HB3 := hid b3; clear hp3 b3))
 have HPN := hid (zzf (HP1.out.keep (fun b e => HB2.out.block b (HP1.out.ge b e).2)) (HB1.out.trans (HB2.out.mono HB1.out.size)) HP3.out HB3.out)
 have b4 := Ba W3 (.cells #[.slice none 0 0] 36)
 have HS : Hid ((∃ os nm F vL ls vN, Pz w.heap.size W1.heap.size v vn n g W3.heap.size os nm os nm F vL ls vN (W3.alloc (.cells #[.slice none 0 0] 36)) /\ NmOk (100 * 0) nm) /\ Below w.heap.size w (W3.alloc (.cells #[.slice none 0 0] 36))) := by
  have hb1 := HB1.out.size
  have hb2 := HB2.out.size
  have hb3 := HB3.out.size
  refine ⟨⟨[], [], _, .slice none 0 0, [], .slice none 0 0, ⟨HPN.out.on b4, ⟨HR2.out.on (Bt HB3.out b4), ⟨zd _ _ _, World.ownsRow_nil _ _ _ _, fun e => (by cases e), by omega⟩, fun b e1 e2 => ?_⟩, rfl, fun b e1 e2 => ?_⟩, ⟨Nat.le_refl _, fun s hs => (by cases hs)⟩⟩, (HB1.out.trans (HB2.out.mono HB1.out.size)).trans ((Bt HB3.out b4).mono (by omega))⟩
  ·have := (HR2.out.foot_ge b e1).2
   rcases e2 with e2 | e2
   ·omega
   ·cases e2
  ·have hF : b < W1.heap.size \/ (W2.heap.size <= b /\ b < W3.heap.size) := by
    rcases e1 with e1 | e1
    ·exact .inl (HP1.out.ge b e1).2
    ·exact .inr (HP3.out.ge b e1)
   rcases e2 with e2 | e2
   ·have := HR2.out.foot_ge b e2; omega
   ·rcases e2 with e2 | e2
    ·omega
    ·cases e2
 obtain ⟨gh, gp, rfl, rfl⟩ := HPN.out.ptrs
 have HB' := hid HB1.out.size
 obtain ⟨gn, hgn⟩ : ∃ g, g = W3.heap.size := ⟨_, rfl⟩
 rw [<- hgn] at HS ⊢
 generalize W3.alloc (.cells #[.slice none 0 0] 36) = W4 at *
 obtain ⟨B', hB'⟩ : ∃ b, b = W1.heap.size := ⟨_, rfl⟩
 rw [<- hB'] at HS HB'
 clear CN CR HP1 HP3 HB1 HB2 HB3 HPN HR2 HG2 b4 hgn hB'
 go_loopw [11] (fun i wr => ∃ q : Nat, q <= nl /\ i = .int .i64 q /\ Hid ((∃ os nm F vL ls vN, Pz w.heap.size B' (.pointer (some ⟨gh, 0, none⟩)) (.pointer (some ⟨gp, 0, none⟩)) n g gn os nm os nm F vL ls vN wr /\ NmOk (100 * q) nm) /\ Below w.heap.size w wr)) (fun i _ => nl - (intOf i).toNat)
 case atStart => exact ⟨0, Nat.zero_le _, rfl, HS.out⟩
 case round =>
  clear HS
  obtain ⟨q, hq, rfl, hI⟩ := hrel
  obtain ⟨⟨os, nm, F, vL, ls, vN, hPz, hNm⟩, hbel⟩ := hI.out
  have HPz := hid hPz
  have HBR := hid hbel
  have hnl := hNm.len
  have HNm := hid hNm
  clear hI hNm hPz hbel
  by_cases hlt : q < nl
  ·obtain ⟨bb, oo, rfl, hlb, hcc⟩ := HR.out.some (by omega)
   obtain ⟨an1, nn1, cn1, ar1, nr1, cr1, x0, x1, g1⟩ := hcc q hlt
   obtain ⟨gr, hgn⟩ : ∃ x, x = gs.getD q ([], []) := ⟨_, rfl⟩
   rw [<- hgn] at g1
   have HEE : Hid (∀ wx, Below w.heap.size w wx -> wx.cell? ⟨bb, oo + q * 2, none⟩ = some (.slice an1 nn1 cn1) /\ wx.cell? ⟨bb, oo + q * 2 + 1, none⟩ = some (.slice ar1 nr1 cr1)) := fun wx hb => ⟨(hb.cell (p := ⟨bb, oo + q * 2, none⟩) (jq x0)).trans x0, (hb.cell (p := ⟨bb, oo + q * 2 + 1, none⟩) (jq x1)).trans x1⟩
   have HGG : Hid (∀ wx, Below w.heap.size w wx -> GIs wx an1 nn1 cn1 ar1 nr1 cr1 gr.1 gr.2) := fun wx hb => g1.below hb
   have hgl := g1.nodes.len
   have hgr := g1.roots.len
   have e0 := (HEE.out wr HBR.out).1
   have e1' := (HEE.out wr HBR.out).2
   clear hgn hcc x0 x1 g1
   have CF1 := hid (zaq1 an1 ar1 nn1 cn1 nr1 cr1 gr.1 gr.2 100 (by omega) wr (HGG.out wr HBR.out))
   have e100 : ((100 : Nat) : Int) = 100 := rfl
   obtain ⟨fb1, hfb1⟩ : ∃ b, b = fewB gr.1 gr.2 100 := ⟨_, rfl⟩
   rw [<- hfb1, e100] at CF1
   unfold GVal at CF1
   cases fb1
   ·clear hfb1
    go_wp2_with (go_at_call 13; (with_reducible refine CF1.out.mono ?_); rintro e W5 ⟨rfl, b5⟩; have HB5 := hid (HBR.out.trans (b5.mono HBR.out.size)); clear b5)
    go_ret
    exact ⟨rfl, HB5.out⟩
   ·have HFW := hid hfb1.symm
    obtain ⟨t1, t2, t3, t4⟩ := zkm hfb1.symm
    rw [hgl] at t1
    rw [hgr] at t2
    have HSM := hid t3
    have HKD := hid t4
    clear t3 t4 hfb1
    have CT : Hid (∀ wx, Below w.heap.size w wx -> Calls Tryz.prog 15 #[.agg #[.slice an1 nn1 cn1, .slice ar1 nr1 cr1]] wx fun e w' => ∃ a1 c1 a2 c2, e = .returned (.agg #[.slice a1 nn1 c1, .slice a2 nr1 c2]) /\ GOk w' a1 nn1 c1 a2 nr1 c2 gr.1 gr.2 /\ Below wx.heap.size wx w') := fun wx hb => by
     refine (ztl an1 ar1 nn1 cn1 nr1 cr1 gr.1 gr.2 wx (HGG.out wx hb) (fun d hd => Nat.le_trans (HKD.out d hd) (by decide)) (by omega) (by omega)).mono ?_
     rintro e w' ⟨a1, n1, c1, a2, n2, c2, rfl, hg, hb'⟩
     obtain rfl : nn1 = n1 := hgl.symm.trans hg.nodes.len
     obtain rfl : nr1 = n2 := hgr.symm.trans hg.roots.len
     exact ⟨a1, c1, a2, c2, rfl, zze hg HFW.out, hb'⟩
    have HNM := hid (HNm.out.put (N := n) (os := os) (ns := gr.1) (rs := gr.2) HSM.out HKD.out (by omega) (by omega) (by omega))
    have hnle := zif (rs := gr.2) HSM.out HKD.out (by omega)
    obtain ⟨r, hr⟩ : ∃ r, r = putR n os nm gr.1 gr.2 := ⟨_, rfl⟩
    rw [<- hr] at HNM
    have HRE := hid hr
    obtain ⟨er, her⟩ : ∃ x, x = r.2.1 := ⟨_, rfl⟩
    obtain ⟨nw, hnw⟩ : ∃ x, x = r.1.length := ⟨_, rfl⟩
    obtain ⟨nd, hnd⟩ : ∃ x, x = ko gr.1 gr.2 := ⟨_, rfl⟩
    have HNW := hid hnw
    have CP : Hid (∀ wx a1 c1 a2 c2, Pz w.heap.size B' (.pointer (some ⟨gh, 0, none⟩)) (.pointer (some ⟨gp, 0, none⟩)) n g gn os nm os nm F vL ls vN wx -> GOk wx a1 nn1 c1 a2 nr1 c2 gr.1 gr.2 -> Below w.heap.size w wx -> Calls Tryz.prog 14 #[.pointer (some ⟨gh, 0, none⟩), .pointer (some ⟨gp, 0, none⟩), .agg #[.slice a1 nn1 c1, .slice a2 nr1 c2]] wx fun e w' => ∃ ao cap F', e = .returned (.tuple #[.slice ao nw cap, .int .i64 er]) /\ URow w' ao nw cap r.1 /\ Pz w.heap.size B' (.pointer (some ⟨gh, 0, none⟩)) (.pointer (some ⟨gp, 0, none⟩)) n g gn r.2.2.1 r.2.2.2 os nm F' vL ls vN w' /\ (∀ a, ao = some a -> ¬ HNF g vL ls gn vN a.block) /\ Below w.heap.size w w') := fun wx a1 c1 a2 c2 hz hg hb => by
     have := zoc a1 a2 nn1 c1 nr1 c2 gr.1 gr.2 wx hz.pn hg t1 t2 hb.size (by omega) (vh.below HT.out hb)
     rw [<- HRE.out, <- her, <- hnw] at this
     refine this.mono ?_
     rintro e w' ⟨ao, cap, rfl, hu, F', p1, p2, p3, p4, p5⟩
     exact ⟨ao, cap, F', rfl, hu, hz.putP p1 p2 p3, fun a ha hf => by have := p5 a ha; have := (hz.hn.ge _ hf).2; omega, hb.trans (p3.below (fun b e => (hz.pn.ge b e).1) hb.size)⟩
    have CD : Hid (∀ wx F', Pz w.heap.size B' (.pointer (some ⟨gh, 0, none⟩)) (.pointer (some ⟨gp, 0, none⟩)) n g gn r.2.2.1 r.2.2.2 os nm F' vL ls vN wx -> Below w.heap.size w wx -> ∀ ao cap, URow wx ao nw cap r.1 -> (∀ a, ao = some a -> ¬ HNF g vL ls gn vN a.block) -> Calls Tryz.prog 16 #[.pointer (some ⟨g, 0, none⟩), .pointer (some ⟨gn, 0, none⟩), .agg #[.slice an1 nn1 cn1, .slice ar1 nr1 cr1]] wx fun e w' => ∃ ao2 cap2 vL' ls' vN', e = .returned (.tuple #[.slice ao2 nw cap2, .int .i64 er]) /\ URow w' ao nw cap r.1 /\ URow w' ao2 nw cap2 r.1 /\ Pz w.heap.size B' (.pointer (some ⟨gh, 0, none⟩)) (.pointer (some ⟨gp, 0, none⟩)) n g gn r.2.2.1 r.2.2.2 r.2.2.1 r.2.2.2 F' vL' ls' vN' w' /\ Below w.heap.size w w') := fun wx F' hz hb ao cap hu ha => by
     have hBx : B' <= wx.heap.size := by
      have h1 := (hz.hn.ge g (.inl (.inl rfl)))
      omega
     have := zxi an1 ar1 nn1 cn1 nr1 cr1 gr.1 gr.2 wx hz.hn (HGG.out wx hb) HSM.out HKD.out t1 t2 hBx (by omega)
     rw [hz.os2_, <- HRE.out] at this
     refine this.mono ?_
     rintro e w' ⟨v, rfl, ho, hp⟩
     obtain ⟨ao2, cap2, rfl, hu2⟩ := q9 ho hu.bd
     obtain ⟨_, _, _, _, _, _, hmod⟩ := id hp
     obtain ⟨vL', ls', vN', hz'⟩ := hz.putD hp
     refine ⟨ao2, cap2, vL', ls', vN', by rw [<- her, <- hnw], hu.keep hmod.size (fun hne a hab => ?_), by rw [hnw]; exact hu2, hz', hb.trans (hmod.below (fun b e => Nat.le_trans HB'.out (hz.hn.ge b e).1) hb.size)⟩
     rcases hu.rd with e | ⟨b, o, e1, e2, e3⟩
     ·exact absurd e hne
     ·rw [e1] at hab; cases hab
      exact hmod.block b e2 (fun e => ha ⟨b, o, none⟩ e1 e)
    have CL : Hid (∀ wx ao cap ao2 cap2, URow wx ao nw cap r.1 -> URow wx ao2 nw cap2 r.1 -> Calls Tryz.prog 17 #[.slice ao nw cap, .slice ao2 nw cap2] wx fun e w' => e = .returned (.bool true) /\ Below wx.heap.size wx w') := fun wx ao cap ao2 cap2 hu1 hu2 => by
     have := zqs ao nw cap r.1 ao2 nw cap2 r.1 wx hu1 hu2
     rw [decide_eq_true rfl] at this
     exact this
    have CS : Hid (∀ wx F' vL' ls' vN', Pz w.heap.size B' (.pointer (some ⟨gh, 0, none⟩)) (.pointer (some ⟨gp, 0, none⟩)) n g gn r.2.2.1 r.2.2.2 r.2.2.1 r.2.2.2 F' vL' ls' vN' wx -> Calls Tryz.prog 18 #[.pointer (some ⟨gh, 0, none⟩), .pointer (some ⟨g, 0, none⟩)] wx fun e w' => e = .returned (.bool true) /\ Below wx.heap.size wx w') := fun wx F' vL' ls' vN' hz => by
     obtain ⟨F1, F2, k1, k2, k3, k4⟩ := hz.pn.ok
     exact zvm wx k1 hz.hn.heap hz.os2_
    have CN1 : Hid (∀ wx, Below w.heap.size w wx -> Calls Tryz.prog 19 #[.agg #[.slice an1 nn1 cn1, .slice ar1 nr1 cr1]] wx fun e w' => e = .returned (.int .i64 nd) /\ Below wx.heap.size wx w') := fun wx hb => by
     rw [hnd]; exact zun an1 ar1 nn1 cn1 nr1 cr1 gr.1 gr.2 wx (zze (HGG.out wx hb) HFW.out) t1 t2 (vh.below HT.out hb)
    have CN2 : Hid (∀ wx, Below w.heap.size w wx -> Calls Tryz.prog 20 #[.agg #[.slice an1 nn1 cn1, .slice ar1 nr1 cr1]] wx fun e w' => e = .returned (.int .i64 nd) /\ Below wx.heap.size wx w') := fun wx hb => by
     rw [hnd]; exact znu an1 ar1 nn1 cn1 nr1 cr1 gr.1 gr.2 wx (HGG.out wx hb) HSM.out HKD.out t1 t2
    clear hr her hnw hnd hnle HRE HNW hgl hgr
    go_wp2_with (first
     | (go_at_call 13; (with_reducible refine CF1.out.mono ?_); rintro e W5 ⟨rfl, b5⟩; have HB5 := hid (HBR.out.trans (b5.mono HBR.out.size)); have HZ5 := hid (HPz.out.on b5); obtain ⟨y0, y1⟩ := HEE.out W5 HB5.out; clear b5)
     | (go_at_call 15; (with_reducible refine (CT.out W5 HB5.out).mono ?_); rintro e W6 ⟨a1, c1, a2, c2, rfl, g6, b6⟩; have HG6 := hid g6; have HZ6 := hid (HZ5.out.on b6); have HB6 := hid (HB5.out.trans (b6.mono HB5.out.size)); clear g6 b6)
     | (go_at_call 14; (with_reducible refine (CP.out W6 a1 c1 a2 c2 HZ6.out HG6.out HB6.out).mono ?_); rintro e W7 ⟨ao, cap, F7, rfl, u7, z7, n7, b7⟩; have HU7 := hid u7; have HZ7 := hid z7; have HN7 := hid n7; have HB7 := hid b7; obtain ⟨s0, s1⟩ := HEE.out W7 b7; clear u7 z7 n7 b7)
     | (go_at_call 16; (with_reducible refine (CD.out W7 F7 HZ7.out HB7.out ao cap HU7.out HN7.out).mono ?_); rintro e W8 ⟨ao2, cap2, vL8, ls8, vN8, rfl, u8, v8, z8, b8⟩; have HU8 := hid u8; have HV8 := hid v8; have HZ8 := hid z8; have HB8 := hid b8; clear u8 v8 z8 b8))
    have eqe : (er != er) = false := by simp
    have eqn : (nd != nd) = false := by simp
    have HS0 : Hid (W8.cell? ⟨bb, oo + q * 2, none⟩ = some (.slice an1 nn1 cn1) /\ W8.cell? ⟨bb, oo + q * 2 + 1, none⟩ = some (.slice ar1 nr1 cr1) /\ Below W8.heap.size W8 W8) := ⟨(HEE.out W8 HB8.out).1, (HEE.out W8 HB8.out).2, Below.refl _ _⟩
    have HW8 : Hid (∀ wx, Below W8.heap.size W8 wx -> Below w.heap.size w wx) := fun wx hb => HB8.out.trans (hb.mono HB8.out.size)
    go_region_held3 (fun wx => wx.cell? ⟨bb, oo + q * 2, none⟩ = some (.slice an1 nn1 cn1) /\ wx.cell? ⟨bb, oo + q * 2 + 1, none⟩ = some (.slice ar1 nr1 cr1) /\ Below W8.heap.size W8 wx)
     (first | exact zdx1 HS0.out (Bd W8 1) | exact zdx1 (by assumption) (by assumption))
     (first
      | (go_at_call 17; with_reducible refine (CL.out _ ao cap ao2 cap2 ?_ ?_).mono ?_; (exact HU8.out.on (zgz (p := bb) (o := oo + q * 2) (o1 := oo + q * 2 + 1) (a0 := .slice an1 nn1 cn1) (a1 := .slice ar1 nr1 cr1) (by assumption))); (exact HV8.out.on (zgz (p := bb) (o := oo + q * 2) (o1 := oo + q * 2 + 1) (a0 := .slice an1 nn1 cn1) (a1 := .slice ar1 nr1 cr1) (by assumption))); rintro e wa ⟨rfl, ba⟩)
      | (go_at_call 18; with_reducible refine (CS.out _ F7 vL8 ls8 vN8 ?_).mono ?_; (exact HZ8.out.on (zgz (p := bb) (o := oo + q * 2) (o1 := oo + q * 2 + 1) (a0 := .slice an1 nn1 cn1) (a1 := .slice ar1 nr1 cr1) (by assumption))); rintro e wb ⟨rfl, bb'⟩)
      | (go_at_call 19; with_reducible refine (CN1.out _ ?_).mono ?_; (exact HW8.out _ (zgz (p := bb) (o := oo + q * 2) (o1 := oo + q * 2 + 1) (a0 := .slice an1 nn1 cn1) (a1 := .slice ar1 nr1 cr1) (by assumption))); rintro e wc ⟨rfl, bc⟩)
      | (go_at_call 20; with_reducible refine (CN2.out _ ?_).mono ?_; (exact HW8.out _ (zgz (p := bb) (o := oo + q * 2) (o1 := oo + q * 2 + 1) (a0 := .slice an1 nn1 cn1) (a1 := .slice ar1 nr1 cr1) (by assumption))); rintro e wd ⟨rfl, bd⟩))
    have HBE : Hid (Below W8.heap.size W8 wd) := (zgz (p := bb) (o := oo + q * 2) (o1 := oo + q * 2 + 1) (a0 := .slice an1 nn1 cn1) (a1 := .slice ar1 nr1 cr1) (by assumption))
    rename_i hHeld
    clear hHeld
    go_wp2
    have HN9 : Hid ((∃ os nm F vL ls vN, Pz w.heap.size B' (.pointer (some ⟨gh, 0, none⟩)) (.pointer (some ⟨gp, 0, none⟩)) n g gn os nm os nm F vL ls vN wd /\ NmOk (100 * (q + 1)) nm) /\ Below w.heap.size w wd) := ⟨⟨_, _, _, _, _, _, HZ8.out.on HBE.out, by rw [Nat.mul_succ]; exact HNM.out⟩, HW8.out _ HBE.out⟩
    exact ⟨⟨q + 1, by omega, by go_num, HN9.out⟩, by simp [intOf] <;> omega⟩
  ·obtain rfl : q = nl := by omega
   go_wp2_with (go_at_call 9; (with_reducible refine (CA.out wr HBR.out).mono ?_); rintro e W5 ⟨rfl, b5⟩; have HB5 := hid (HBR.out.trans (b5.mono HBR.out.size)); clear b5)
   go_ret
   exact ⟨rfl, HB5.out⟩
end Go.Proofs.YtadfihnffboelaaGreatDoor
