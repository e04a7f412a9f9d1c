/-
  How a graph that is handed in is opened, over this program.
-/
import Derived.Test.YtfkdpomhojhapaaDoorE1
import Derived.Test.YtfkdpomhojhapaaDoorE2
import Derived.Test.YtfkdpomhojhapaaDoorE5
import Derived.Test.YtfkdpomhojhapaaDoorK1
import Derived.Test.YtfkdpomhojhapaaDoorH6
import Derived.Test.YtfkdpomhojhapaaDoorRows
import Derived.Test.YtfkdpomhojhapaaDoorW40
import Derived.ProofKit
import Derived.OpenShut
import Derived.ShutString
import Derived.ChangeOld
import Derived.Below
import Derived.Lib.SmallJoins
import Derived.Deep.Slices
set_option linter.unusedVariables false
set_option linter.unusedSimpArgs false
set_option maxRecDepth 100000
namespace Go.Proofs.YtfkdpomhojhapaaDoor
open Go.RowKit

open Classical in
theorem raw_of_small {ns : List Nd} {rs : List Int} (h : rawB ns rs = true) (hk : ∀ d ∈ ns, d.kids.length ≤ 100) : Raw ns rs := by
  unfold rawB at h
  obtain ⟨h1, h2⟩ := of_decide_eq_true h
  exact ⟨fun d hd => ⟨fun z hz => by have := h2 d hd z hz; unfold smallZ at this; omega, by have := hk d hd; omega⟩, fun z hz => by have := h1 z hz; unfold smallZ at this; omega⟩

set_option maxHeartbeats 8000000 in
theorem graphJoins_walk (an ar : Option Addr) (nn cn nr cr : Nat) (ns : List Nd) (rs : List Int) (ah bh : Option Addr) (nh ch mh dh : Nat) (hs : List Nd) (hr : List Int) (w : World) (G : GIs w an nn cn ar nr cr ns rs) (G' : GIs w ah nh ch bh mh dh hs hr) (hT : Tabs w) :
    Calls Tryd.prog 3 #[GVal an nn cn ar nr cr, GVal ah nh ch bh mh dh] w fun e w' => e = .returned (.bool true) ∧ Below w.heap.size w w' := by
  have HG := hid G
  have HG' := hid G'
  have HT := hid hT
  have hlen := G.nodes.len
  have hrl := G.roots.len
  have hlen' := G'.nodes.len
  have hrl' := G'.roots.len
  unfold GVal
  clear G G' hT
  go_enter Tryd.func3, Tryd.ntmps3
  go_wp2_with fail
  have bA := Baa w (.cells #[.slice an nn cn, .slice ar nr cr] 25) (.cells #[.slice ah nh ch, .slice bh mh dh] 25)
  have x1 := (GBox.new 25 w an ar nn cn nr cr).on (Ba (w.alloc (.cells #[.slice an nn cn, .slice ar nr cr] 25)) (.cells #[.slice ah nh ch, .slice bh mh dh] 25))
  have x2 := GBox.new 25 (w.alloc (.cells #[.slice an nn cn, .slice ar nr cr] 25)) ah bh nh ch mh dh
  rw [size_alloc] at x2
  generalize (w.alloc (.cells #[.slice an nn cn, .slice ar nr cr] 25)).alloc (.cells #[.slice ah nh ch, .slice bh mh dh] 25) = W1 at *
  obtain ⟨gh, hgh⟩ : ∃ g, g = w.heap.size + 1 := ⟨_, rfl⟩
  obtain ⟨gb, hgb⟩ : ∃ g, g = w.heap.size := ⟨_, rfl⟩
  rw [← hgb] at x1
  rw [← hgh] at x2
  rw [← hgh, ← hgb]
  clear hgb hgh
  refine (few_any an ar nn cn nr cr ns rs 100 (by omega) W1 (HG.out.below bA)).mono ?_
  rintro e W ⟨rfl, b2⟩
  have HBW := hid (Bt bA b2)
  have Y1 := hid (x1.on b2)
  have Y2 := hid (x2.on b2)
  obtain ⟨c0, c1⟩ := Y1.out.c
  obtain ⟨d0, d1⟩ := Y2.out.c
  clear bA x1 x2 b2
  obtain ⟨fb, hfb⟩ : ∃ gd, gd = fewB ns rs 100 := ⟨_, rfl⟩
  rw [← hfb]
  have HFB := hid hfb
  clear hfb
  cases fb
  · go_wp2_with fail
    go_ret
    exact ⟨rfl, HBW.out⟩
  obtain ⟨f1, f2, f3, f4⟩ := few_parts HFB.out.symm
  rw [hlen] at f1
  rw [hrl] at f2
  go_wp2_with fail
  refine (few_any ah bh nh ch mh dh hs hr 100 (by omega) W (HG'.out.below HBW.out)).mono ?_
  rintro e W2 ⟨rfl, b2⟩
  have HBW2 := hid (Bt HBW.out b2)
  have Z1 := hid (Y1.out.on b2)
  have Z2 := hid (Y2.out.on b2)
  clear c0 c1 d0 d1 b2 Y1 Y2 HBW
  obtain ⟨c0, c1⟩ := Z1.out.c
  obtain ⟨d0, d1⟩ := Z2.out.c
  obtain ⟨fb', hfb'⟩ : ∃ gd, gd = fewB hs hr 100 := ⟨_, rfl⟩
  rw [← hfb']
  have HFB' := hid hfb'
  clear hfb'
  cases fb'
  · go_wp2_with fail
    go_ret
    exact ⟨rfl, HBW2.out⟩
  obtain ⟨f1', f2', f3', f4'⟩ := few_parts HFB'.out.symm
  rw [hlen'] at f1'
  rw [hrl'] at f2'
  go_wp2_with fail
  refine (raw_any an ar nn cn nr cr ns rs W2 (HG.out.below HBW2.out)).mono ?_
  rintro e W3 ⟨rfl, b2⟩
  have HBW3 := hid (Bt HBW2.out b2)
  have Y1 := hid (Z1.out.on b2)
  have Y2 := hid (Z2.out.on b2)
  clear c0 c1 d0 d1 b2 Z1 Z2 HBW2
  obtain ⟨c0, c1⟩ := Y1.out.c
  obtain ⟨d0, d1⟩ := Y2.out.c
  obtain ⟨gd, hgd⟩ : ∃ gd, gd = rawB ns rs := ⟨_, rfl⟩
  rw [← hgd]
  have HGD := hid hgd
  clear hgd
  cases gd
  · go_wp2_with fail
    go_ret
    exact ⟨rfl, HBW3.out⟩
  go_wp2_with fail
  refine (raw_any ah bh nh ch mh dh hs hr W3 (HG'.out.below HBW3.out)).mono ?_
  rintro e W4 ⟨rfl, b2⟩
  have HBW4 := hid (Bt HBW3.out b2)
  have Z1 := hid (Y1.out.on b2)
  have Z2 := hid (Y2.out.on b2)
  clear c0 c1 d0 d1 b2 Y1 Y2 HBW3
  obtain ⟨c0, c1⟩ := Z1.out.c
  obtain ⟨d0, d1⟩ := Z2.out.c
  obtain ⟨gd', hgd'⟩ : ∃ gd, gd = rawB hs hr := ⟨_, rfl⟩
  rw [← hgd']
  have HGD' := hid hgd'
  clear hgd'
  cases gd'
  · go_wp2_with fail
    go_ret
    exact ⟨rfl, HBW4.out⟩
  go_wp2_with fail
  obtain ⟨JN, hJN⟩ : ∃ C, C = joinN ns hs := ⟨_, rfl⟩
  obtain ⟨JR, hJR⟩ : ∃ C, C = rs ++ hr.map (· + (ns.length : Int)) := ⟨_, rfl⟩
  obtain ⟨SB, hSB⟩ : ∃ C, C = sameGB ns rs hs hr := ⟨_, rfl⟩
  have hJR2 : movedL 0 rs ++ movedL nn hr = JR := by rw [hJR, movedL_zero, hlen]; rfl
  have GG : Hid (GIs W4 an nn cn ar nr cr ns rs) := HG.out.below HBW4.out
  have GG' : Hid (GIs W4 ah nh ch bh mh dh hs hr) := HG'.out.below HBW4.out
  have TW := hid (HT.out.below HBW4.out)
  have HRW : Hid (Raw ns rs) := raw_of_small HGD.out.symm f4
  have HRW' : Hid (Raw hs hr) := raw_of_small HGD'.out.symm f4'
  have C1 : Hid (∀ wx, Below W4.heap.size W4 wx → Calls Tryd.prog 7 #[.agg #[.slice an nn cn, .slice ar nr cr], .agg #[.slice ah nh ch, .slice bh mh dh]] wx fun e w' => ∃ a1 n1 c1 a2 n2 c2, e = .returned (.agg #[.slice a1 n1 c1, .slice a2 n2 c2]) ∧ GIs w' a1 n1 c1 a2 n2 c2 JN JR ∧ Below wx.heap.size wx w') := fun wx b => by
    have := join_any an ar nn cn nr cr ns rs ah bh nh ch mh dh hs hr wx (GG.out.below b) (GG'.out.below b) HRW.out HRW'.out (by omega) (by omega) (by omega) (by omega)
    rw [hJR2, ← hJN] at this; exact this
  have C2 : Hid (∀ wx, Below W4.heap.size W4 wx → Calls Tryd.prog 8 #[.agg #[.slice an nn cn, .slice ar nr cr], .agg #[.slice ah nh ch, .slice bh mh dh]] wx fun e w' => ∃ a1 n1 c1 a2 n2 c2, e = .returned (.agg #[.slice a1 n1 c1, .slice a2 n2 c2]) ∧ GIs w' a1 n1 c1 a2 n2 c2 JN JR ∧ Below wx.heap.size wx w') := fun wx b => by
    have := rjoin_any an ar nn cn nr cr ns rs ah bh nh ch mh dh hs hr wx (GG.out.below b) (GG'.out.below b) HRW.out HRW'.out (by omega) (by omega) (by omega) (by omega)
    rw [← hJR, ← hJN] at this; exact this
  have C3 : Hid (∀ wa wx b1 k1 e1 b2 k2 e2 p1 m1 d1 p2 m2 d2, Below wa.heap.size wa wx → GIs wa b1 k1 e1 b2 k2 e2 JN JR → GIs wx p1 m1 d1 p2 m2 d2 JN JR → Calls Tryd.prog 6 #[.agg #[.slice b1 k1 e1, .slice b2 k2 e2], .agg #[.slice p1 m1 d1, .slice p2 m2 d2]] wx fun e w' => e = .returned (.bool true) ∧ Below wx.heap.size wx w') := fun wa wx b1 k1 e1 b2 k2 e2 p1 m1 d1 p2 m2 d2 b h1 h2 => by
    have := requal_any b1 b2 k1 e1 k2 e2 JN JR p1 p2 m1 d1 m2 d2 JN JR wx (h1.below b) h2
    rw [decide_eq_true (⟨rfl, rfl⟩ : JN = JN ∧ JR = JR)] at this; exact this
  have C4 : Hid (∀ wx, Below W4.heap.size W4 wx → Calls Tryd.prog 9 #[.agg #[.slice an nn cn, .slice ar nr cr], .agg #[.slice ah nh ch, .slice bh mh dh]] wx fun e w' => e = .returned (.bool SB) ∧ Below wx.heap.size wx w') := fun wx b => by
    have := same_g an ar nn cn nr cr ns rs ah bh nh ch mh dh hs hr wx (gok_of (GG.out.below b) HFB.out.symm) (gok_of (GG'.out.below b) HFB'.out.symm) (TW.out.below b)
    rw [← hSB] at this; exact this
  have C5 : Hid (∀ wx, Below W4.heap.size W4 wx → Calls Tryd.prog 10 #[.agg #[.slice an nn cn, .slice ar nr cr], .agg #[.slice ah nh ch, .slice bh mh dh]] wx fun e w' => e = .returned (.bool SB) ∧ Below wx.heap.size wx w') := fun wx b => by
    have := grsame_any an ar nn cn nr cr ns rs ah bh nh ch mh dh hs hr wx (gok_of (GG.out.below b) HFB.out.symm) (gok_of (GG'.out.below b) HFB'.out.symm) (by omega) (by omega) (by omega) (by omega)
    rw [← hSB] at this; exact this
  have e1 : (SB == SB) = true := by simp
  have HS0 : Hid (W4.cell? ⟨gb, 0, none⟩ = some (.slice an nn cn) ∧ W4.cell? ⟨gb, 1, none⟩ = some (.slice ar nr cr) ∧ W4.cell? ⟨gh, 0, none⟩ = some (.slice ah nh ch) ∧ W4.cell? ⟨gh, 1, none⟩ = some (.slice bh mh dh) ∧ Below W4.heap.size W4 W4) := ⟨c0, c1, d0, d1, Below.refl _ _⟩
  clear c0 c1 d0 d1 hJN hJR hSB hJR2 GG GG' HRW HRW'
  go_region_held3 (fun wx => wx.cell? ⟨gb, 0, none⟩ = some (.slice an nn cn) ∧ wx.cell? ⟨gb, 1, none⟩ = some (.slice ar nr cr) ∧ wx.cell? ⟨gh, 0, none⟩ = some (.slice ah nh ch) ∧ wx.cell? ⟨gh, 1, none⟩ = some (.slice bh mh dh) ∧ Below W4.heap.size W4 wx)
    (first | exact h4_on HS0.out (Bd W4 1) | exact h4_on (by assumption) (by assumption))
    (first
      | (go_at_call 7; with_reducible refine (C1.out _ ?_).mono ?_; (exact h4_bel (p := gb) (q := gh) (a0 := .slice an nn cn) (a1 := .slice ar nr cr) (b0 := .slice ah nh ch) (b1 := .slice bh mh dh) (by assumption)); rintro e wa ⟨y1, y2, y3, y4, y5, y6, rfl, hgy, ba⟩)
      | (go_at_call 8; with_reducible refine (C2.out _ ?_).mono ?_; (exact h4_bel (p := gb) (q := gh) (a0 := .slice an nn cn) (a1 := .slice ar nr cr) (b0 := .slice ah nh ch) (b1 := .slice bh mh dh) (by assumption)); rintro e wb ⟨z1, z2, z3, z4, z5, z6, rfl, hgz, bb⟩)
      | (go_at_call 6; with_reducible refine (C3.out _ _ _ _ _ _ _ _ _ _ _ _ _ _ bb hgy hgz).mono ?_; rintro e wc ⟨rfl, bc⟩)
      | (go_at_call 9; with_reducible refine (C4.out _ ?_).mono ?_; (exact h4_bel (p := gb) (q := gh) (a0 := .slice an nn cn) (a1 := .slice ar nr cr) (b0 := .slice ah nh ch) (b1 := .slice bh mh dh) (by assumption)); rintro e wd ⟨rfl, bd⟩)
      | (go_at_call 10; with_reducible refine (C5.out _ ?_).mono ?_; (exact h4_bel (p := gb) (q := gh) (a0 := .slice an nn cn) (a1 := .slice ar nr cr) (b0 := .slice ah nh ch) (b1 := .slice bh mh dh) (by assumption)); rintro e we ⟨rfl, be⟩)
      | (go_at_call 11; refine (wakes_any _ ?_).mono ?_; (exact TW.out.below (h4_bel (p := gb) (q := gh) (a0 := .slice an nn cn) (a1 := .slice ar nr cr) (b0 := .slice ah nh ch) (b1 := .slice bh mh dh) (by assumption))); rintro e wf ⟨rfl, bf⟩))
  have HBE : Hid (Below w.heap.size w wf) := Bt HBW4.out (h4_bel (p := gb) (q := gh) (a0 := .slice an nn cn) (a1 := .slice ar nr cr) (b0 := .slice ah nh ch) (b1 := .slice bh mh dh) (by assumption))
  rename_i hHeld
  clear hHeld
  go_wp2
  go_ret
  exact ⟨rfl, HBE.out⟩
end Go.Proofs.YtfkdpomhojhapaaDoor

set_option linter.unusedVariables false
set_option linter.unusedSimpArgs false
set_option maxRecDepth 100000
namespace Go.Proofs.YtfkdpomhojhapaaDoor
open Go.ChangeShapes Go.WideShapes Go.ChangeAt Go.RowKit Go.Joins Go.Deep

theorem own : ownKnob Tryd.prog.godebug = none := by kernel_rfl
theorem laidOut : laidOutB Tryd.prog = true := by kernel_rfl
theorem cellsGraph : Tryd.prog.cellsOf 25 = 2 := by kernel_rfl
theorem cellsNode : Tryd.prog.cellsOf 32 = 4 := by kernel_rfl
theorem cellsI : Tryd.prog.cellsOf 3 = 1 := by kernel_rfl
theorem cellsS : Tryd.prog.cellsOf 9 = 1 := by kernel_rfl
theorem cellsIs : Tryd.prog.cellsOf 23 = 1 := by kernel_rfl

theorem addp (b o k : Nat) : Addr.add ⟨b, o, none⟩ k = ⟨b, o + k, none⟩ := by
  unfold Addr.add
  by_cases h : k = 0
  · subst h; simp
  · rw [if_neg h]
theorem plain_of {W : World} {a : Addr} {v : Value} (h : W.cell? a = some v) : ∃ b o, a = ⟨b, o, none⟩ ∧ b < W.heap.size := by
  obtain ⟨bb, o, sp⟩ := a
  have hsp : sp = none := by
    cases sp with
    | none => rfl
    | some k =>
      exfalso
      simp [World.cell?] at h
      split at h <;> simp_all
  subst hsp
  exact ⟨bb, o, rfl, World.block_lt_of_cell? W ⟨bb, o, none⟩ h⟩
theorem add0 (a : Addr) : a.add 0 = a := by simp [Addr.add]

section
variable {H : Type} {enc : TypeId × Value → H} {W : World} {base : Nat} {spare : Nat → Bool} {held : Bool}
theorem ints_arg {fuel : Nat} {cs : List Value} {y : DataW H × List MemPlace} (h : DataW.trod enc Tryd.prog W base spare held fuel 23 cs = some y) : ∃ ao n cap l, cs = [.slice ao n cap] ∧ IRow W ao n cap l := by
  rcases open_ints Tryd.underlying23 Tryd.underlying3 cellsI h with ⟨rfl, _⟩ | ⟨a, len, cap, zs, rfl, _, hl, hm, hz, _, hcell, hwz⟩
  · exact ⟨none, 0, 0, [], rfl, IRow.nil _ _⟩
  · have hzl : len ≤ zs.length := by rw [hz]; split <;> omega
    have hlen : (zs.take len).length = len := by rw [List.length_take, Nat.min_eq_left hzl]
    refine ⟨some a, len, cap, zs.take len, rfl, hlen, hl, hm, fun h => (by cases h), ?_, ?_⟩
    · intro z hz'
      have := bounds_i64 (hwz z (List.mem_of_mem_take hz'))
      unfold I64; omega
    · by_cases h0 : len = 0
      · subst h0; exact .inl (by simp)
      · have hc0 := hcell 0 (by omega)
        rw [add0] at hc0
        obtain ⟨bb, o, rfl, hlt⟩ := plain_of hc0
        refine .inr ⟨bb, o, rfl, hlt, fun i hi => ?_⟩
        rw [hlen] at hi
        have hci := hcell i (by omega)
        rw [addp] at hci
        rw [hci, List.getD_eq_getElem?_getD, List.getD_eq_getElem?_getD, List.getElem?_take, if_pos hi]

theorem node_arg {n : Nat} {cs : List Value} {y : DataW H × List MemPlace} {b k : Nat} (hc : W.cells? base ⟨b, k, none⟩ 4 = some cs) (h : DataW.trod enc Tryd.prog W base spare held n 32 cs = some y) : ∃ d, NdAt W b k d ∧ NdOk d := by
  obtain ⟨_, hlen, hcell⟩ := World.cells?_some hc
  obtain ⟨xs, m, hm, hxy, _, hxl, hf⟩ := DataW.trod_struct Tryd.underlying32 h
  match xs, hxl, cs, hlen with
  | [y0, y1, y2, y3], _, [v0, v1, v2, v3], _ =>
    have g0 := hf 0 _ rfl
    have g1 := hf 1 _ rfl
    have g2 := hf 2 _ rfl
    have g3 := hf 3 _ rfl
    simp [cellsI, cellsS, cellsIs] at g0 g1 g2 g3
    have e0 := hcell 0 (by omega)
    have e1 := hcell 1 (by omega)
    have e2 := hcell 2 (by omega)
    have e3 := hcell 3 (by omega)
    rw [addp] at e0 e1 e2 e3
    obtain ⟨z0, q0, _, w0⟩ := DataW.trod_int Tryd.underlying3 g0
    obtain ⟨z1, q1, _, w1⟩ := DataW.trod_int Tryd.underlying3 g1
    obtain ⟨s, q2, _, w2⟩ := DataW.trod_string Tryd.underlying9 g2
    obtain ⟨ao, nk, ck, l, q3, hI⟩ := ints_arg g3
    cases q0; cases q1; cases q2; cases q3
    have b0 := bounds_i64 w0
    have b1 := bounds_i64 w1
    exact ⟨⟨z0, z1, s, l⟩, ⟨by simpa using e0, by simpa using e1, by simpa using e2, ao, nk, ck, by simpa using e3, hI⟩, ⟨by unfold I64; omega, by unfold I64; omega, w2⟩⟩

theorem nodes_arg {fuel : Nat} {cs : List Value} {y : DataW H × List MemPlace} (h : DataW.trod enc Tryd.prog W base spare held fuel 22 cs = some y) : ∃ ao n cap l, cs = [.slice ao n cap] ∧ NRow W ao n cap l := by
  rcases open_slice Tryd.underlying22 h with ⟨rfl, _⟩ | ⟨a, len, cap, m, n, D, Pl, rfl, _, hl, hm, hmm, _, hx⟩
  · exact ⟨none, 0, 0, [], rfl, NRow.nil _ _⟩
  · have hlm : len ≤ m := by rw [hmm]; split <;> omega
    by_cases h0 : len = 0
    · subst h0
      exact ⟨some a, 0, cap, [], rfl, rfl, hl, hm, fun e => (by cases e), fun _ e => (by cases e), .inl rfl⟩
    · have hp : ∃ b o, a = ⟨b, o, none⟩ ∧ b < W.heap.size := by
        obtain ⟨cs', h1, _⟩ := hx 0 (by omega)
        rw [cellsNode, Nat.zero_mul, add0] at h1
        obtain ⟨_, hlen, hcell⟩ := World.cells?_some h1
        have := hcell 0 (by omega)
        rw [add0, List.getElem?_eq_getElem (by omega)] at this
        exact plain_of this
      obtain ⟨b, o, rfl, hb⟩ := hp
      have each : ∀ i, i < len → ∃ d : Nd, NdAt W b (o + i * 4) d ∧ NdOk d := fun i hi => by
        obtain ⟨cs', h1, h2⟩ := hx i (by omega)
        rw [cellsNode, addp] at h1
        exact node_arg h1 h2
      obtain ⟨q, hq⟩ := choose_lt each
      have hget : ∀ i, i < len → ((List.range len).map q).getD i default = q i := fun i hi => by
        rw [List.getD_eq_getElem?_getD, List.getElem?_map, List.getElem?_range hi]; rfl
      refine ⟨some ⟨b, o, none⟩, len, cap, (List.range len).map q, rfl, by simp, hl, hm, fun e => (by cases e), ?_, .inr ⟨b, o, rfl, hb, fun i hi => ?_⟩⟩
      · intro d hd
        obtain ⟨i, hi, rfl⟩ := List.mem_map.1 hd
        exact (hq i (List.mem_range.1 hi)).2
      · have hi' : i < len := by simpa using hi
        rw [hget i hi']; exact (hq i hi').1
end
theorem graph_arg {H : Type} {enc : TypeId × Value → H} {W : World} {r : Reach} {b0 : Nat} {v : Value} {d : DataW H} {p : List MemPlace} {base : Nat} {spare : TypeId → Bool} {held : Bool}
    (hv : Value.okWide Tryd.prog W r b0 25 v) (h : DataW.Trod enc Tryd.prog W base spare held 25 v d p) :
    ∃ an nn cn ar nr cr ns rs, v = GVal an nn cn ar nr cr ∧ GIs W an nn cn ar nr cr ns rs := by
  obtain ⟨c0, c1, y0, y1, m, rfl, rfl, rfl, hy0, hy1⟩ := open_agg2 Tryd.underlying25 (by kernel_rfl) cellsGraph hv h
  obtain ⟨an, nn, cn, ns, q0, hN⟩ := nodes_arg hy0
  obtain ⟨ar, nr, cr, rs, q1, hR⟩ := ints_arg hy1
  cases q0; cases q1
  exact ⟨an, nn, cn, ar, nr, cr, ns, rs, rfl, hN, hR⟩
end Go.Proofs.YtfkdpomhojhapaaDoor
