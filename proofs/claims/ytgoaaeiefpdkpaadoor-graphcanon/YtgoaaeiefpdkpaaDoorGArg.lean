/-
  How a graph that is handed in is opened, over this program.
-/
import Derived.Test.YtgoaaeiefpdkpaaDoorC3
import Derived.Test.YtgoaaeiefpdkpaaDoorRows
import Derived.Test.YtgoaaeiefpdkpaaDoorW40
import Derived.ProofKit
import Derived.OpenShut
import Derived.ShutString
import Derived.ChangeOld
import Derived.Below
import Derived.Lib.SmallJoins
import Derived.Deep.Slices
set_option linter.unusedVariables false
set_option linter.unusedSimpArgs false
set_option maxRecDepth 100000
namespace Go.Proofs.YtgoaaeiefpdkpaaDoor
open Go.RowKit

set_option maxHeartbeats 8000000 in
theorem graphCanon_walk (an ar : Option Addr) (nn cn nr cr : Nat) (ns : List Nd) (rs : List Int) (w : World) (G : GIs w an nn cn ar nr cr ns rs) (hT : Tabs w) :
    Calls Tryd.prog 3 #[GVal an nn cn ar nr cr] w fun e w' => e = .returned (.bool true) ∧ Below w.heap.size w w' := by
  have HG := hid G
  have HT := hid hT
  have hlen := G.nodes.len
  have hrl := G.roots.len
  unfold GVal
  clear G hT
  go_enter Tryd.func3, Tryd.ntmps3
  go_wp2_with fail
  have bA := Ba w (.cells #[.slice an nn cn, .slice ar nr cr] 25)
  have x1 := GBox.new 25 w an ar nn cn nr cr
  generalize w.alloc (.cells #[.slice an nn cn, .slice ar nr cr] 25) = W1 at *
  obtain ⟨gb, hgb⟩ : ∃ g, g = w.heap.size := ⟨_, rfl⟩
  rw [← hgb] at x1
  rw [← hgb]
  clear hgb
  refine (few_any an ar nn cn nr cr ns rs 100 (by omega) W1 (HG.out.below bA)).mono ?_
  rintro e W ⟨rfl, b2⟩
  have HBW := hid (Bt bA b2)
  have Y1 := hid (x1.on b2)
  obtain ⟨hc0, hc1⟩ := Y1.out.c
  clear bA x1 b2
  obtain ⟨fb, hfb⟩ : ∃ gd, gd = fewB ns rs 100 := ⟨_, rfl⟩
  rw [← hfb]
  have HFB := hid hfb
  clear hfb
  cases fb
  · go_wp2_with fail
    go_ret
    exact ⟨rfl, HBW.out⟩
  obtain ⟨f1, f2, f3, f4⟩ := few_parts HFB.out.symm
  rw [hlen] at f1
  rw [hrl] at f2
  go_wp2_with fail
  refine (rtwin_any an ar nn cn nr cr ns rs W (HG.out.below HBW.out) (fun d hd => by have := f4 d hd; omega) (by omega) (by omega)).mono ?_
  rintro e w2 ⟨a1, n1, c1, a2, n2, c2, rfl, hG2, b2⟩
  unfold GVal
  have l1 := hG2.nodes.len
  have l2 := hG2.roots.len
  rw [hlen] at l1
  rw [hrl] at l2
  subst l1 l2
  have bX := Ba w2 (.cells #[.slice a1 nn c1, .slice a2 nr c2] 25)
  have x2 := GBox.new 25 w2 a1 a2 nn c1 nr c2
  have HB2 := hid (Bt (Bt HBW.out b2) bX)
  have Y2 := hid ((Y1.out.on b2).on bX)
  have G2 := hid (hG2.below bX)
  clear hc0 hc1 b2 hG2
  have hj0 := blk_cell x2 0
  have hj1 := blk_cell x2 1
  simp only [List.getElem?_toArray] at hj0 hj1
  go_wp2_with fail
  obtain ⟨gt, hgt⟩ : ∃ g, g = w2.heap.size := ⟨_, rfl⟩
  rw [← hgt] at x2
  rw [← hgt]
  clear hgt bX hj0 hj1
  generalize w2.alloc (.cells #[.slice a1 nn c1, .slice a2 nr c2] 25) = W3 at *
  have X2 := hid x2
  clear x2
  have OT : Hid (GOk W3 a1 nn c1 a2 nr c2 ns rs) := ⟨G2.out, f3, f4, by omega, by omega⟩
  refine (canonN_any OT.out (HT.out.below HB2.out)).mono ?_
  rintro e w4 ⟨p1, m1, d1, p2, m2, d2, rfl, hG4, b4⟩
  unfold GVal
  have bX := Ba w4 (.cells #[.slice p1 m1 d1, .slice p2 m2 d2] 25)
  have x4 := GBox.new 25 w4 p1 p2 m1 d1 m2 d2
  have HB4 := hid (Bt (Bt HB2.out b4) bX)
  have Y4 := hid ((Y2.out.on b4).on bX)
  have X24 := hid ((X2.out.on b4).on bX)
  have G4 := hid (hG4.below bX)
  have G24 := hid ((G2.out.below b4).below bX)
  clear b4 hG4
  go_wp2_with fail
  obtain ⟨gc, hgc⟩ : ∃ g, g = w4.heap.size := ⟨_, rfl⟩
  rw [← hgc] at x4
  rw [← hgc]
  clear hgc bX
  generalize w4.alloc (.cells #[.slice p1 m1 d1, .slice p2 m2 d2] 25) = W5 at *
  have X4 := hid x4
  clear x4
  obtain ⟨CC, hCC⟩ : ∃ C, C = canonN ns rs := ⟨_, rfl⟩
  have GG : Hid (GIs W5 an nn cn ar nr cr ns rs) := HG.out.below HB4.out
  have TW := hid (HT.out.below HB4.out)
  have G4' : Hid (GIs W5 p1 m1 d1 p2 m2 d2 CC.1 CC.2) := by rw [hCC]; exact G4.out
  have C1 : Hid (∀ wx, Below W5.heap.size W5 wx → Calls Tryd.prog 12 #[.agg #[.slice an nn cn, .slice ar nr cr]] wx fun e w' => ∃ a1 n1 c1 a2 n2 c2, e = .returned (.agg #[.slice a1 n1 c1, .slice a2 n2 c2]) ∧ GIs w' a1 n1 c1 a2 n2 c2 CC.1 CC.2 ∧ Below wx.heap.size wx w') := fun wx b => by
    have := rcanon_any an ar nn cn nr cr ns rs wx (GG.out.below b) f3 f4 (by omega) (by omega)
    rw [← hCC] at this; exact this
  have C2 : Hid (∀ wx b1 k1 e1 b2 k2 e2, Below W5.heap.size W5 wx → GIs wx b1 k1 e1 b2 k2 e2 CC.1 CC.2 → Calls Tryd.prog 11 #[.agg #[.slice p1 m1 d1, .slice p2 m2 d2], .agg #[.slice b1 k1 e1, .slice b2 k2 e2]] wx fun e w' => e = .returned (.bool true) ∧ Below wx.heap.size wx w') := fun wx b1 k1 e1 b2 k2 e2 b h => by
    have := requal_any p1 p2 m1 d1 m2 d2 CC.1 CC.2 b1 b2 k1 e1 k2 e2 CC.1 CC.2 wx (G4'.out.below b) h
    rw [decide_eq_true (⟨rfl, rfl⟩ : CC.1 = CC.1 ∧ CC.2 = CC.2)] at this; exact this
  have C3 : Hid (∀ wx, Below W5.heap.size W5 wx → Calls Tryd.prog 11 #[.agg #[.slice a1 nn c1, .slice a2 nr c2], .agg #[.slice an nn cn, .slice ar nr cr]] wx fun e w' => e = .returned (.bool true) ∧ Below wx.heap.size wx w') := fun wx b => by
    have := requal_any a1 a2 nn c1 nr c2 ns rs an ar nn cn nr cr ns rs wx (G24.out.below b) (GG.out.below b)
    rw [decide_eq_true (⟨rfl, rfl⟩ : ns = ns ∧ rs = rs)] at this; exact this
  obtain ⟨p0, q0⟩ := Y4.out.c
  obtain ⟨p5, q5⟩ := X24.out.c
  obtain ⟨p6, q6⟩ := X4.out.c
  have HS0 : Hid (W5.cell? ⟨gb, 0, none⟩ = some (.slice an nn cn) ∧ W5.cell? ⟨gb, 1, none⟩ = some (.slice ar nr cr) ∧ W5.cell? ⟨gt, 0, none⟩ = some (.slice a1 nn c1) ∧ W5.cell? ⟨gt, 1, none⟩ = some (.slice a2 nr c2) ∧ W5.cell? ⟨gc, 0, none⟩ = some (.slice p1 m1 d1) ∧ W5.cell? ⟨gc, 1, none⟩ = some (.slice p2 m2 d2) ∧ Below W5.heap.size W5 W5) := ⟨p0, q0, p5, q5, p6, q6, Below.refl _ _⟩
  clear p0 q0 p5 q5 p6 q6 hCC G4 G4' GG G24 OT
  go_region_held3 (fun wx => wx.cell? ⟨gb, 0, none⟩ = some (.slice an nn cn) ∧ wx.cell? ⟨gb, 1, none⟩ = some (.slice ar nr cr) ∧ wx.cell? ⟨gt, 0, none⟩ = some (.slice a1 nn c1) ∧ wx.cell? ⟨gt, 1, none⟩ = some (.slice a2 nr c2) ∧ wx.cell? ⟨gc, 0, none⟩ = some (.slice p1 m1 d1) ∧ wx.cell? ⟨gc, 1, none⟩ = some (.slice p2 m2 d2) ∧ Below W5.heap.size W5 wx)
    (first | exact h6_on HS0.out (Bd W5 1) | exact h6_on (by assumption) (by assumption))
    (first
      | (go_at_call 12; with_reducible refine (C1.out _ ?_).mono ?_; (exact h6_bel (p := gb) (q := gt) (r := gc) (a0 := .slice an nn cn) (a1 := .slice ar nr cr) (b0 := .slice a1 nn c1) (b1 := .slice a2 nr c2) (c0 := .slice p1 m1 d1) (c1 := .slice p2 m2 d2) (by assumption)); rintro e wa ⟨y1, y2, y3, y4, y5, y6, rfl, hgy, ba⟩)
      | (go_at_call 11; with_reducible refine (C2.out _ _ _ _ _ _ _ ?_ hgy).mono ?_; (exact h6_bel (p := gb) (q := gt) (r := gc) (a0 := .slice an nn cn) (a1 := .slice ar nr cr) (b0 := .slice a1 nn c1) (b1 := .slice a2 nr c2) (c0 := .slice p1 m1 d1) (c1 := .slice p2 m2 d2) (by assumption)); rintro e wb ⟨rfl, bb⟩)
      | (go_at_call 11; with_reducible refine (C3.out _ ?_).mono ?_; (exact h6_bel (p := gb) (q := gt) (r := gc) (a0 := .slice an nn cn) (a1 := .slice ar nr cr) (b0 := .slice a1 nn c1) (b1 := .slice a2 nr c2) (c0 := .slice p1 m1 d1) (c1 := .slice p2 m2 d2) (by assumption)); rintro e wd ⟨rfl, bd⟩)
      | (go_at_call 13; refine (wakes_any _ ?_).mono ?_; (exact TW.out.below (h6_bel (p := gb) (q := gt) (r := gc) (a0 := .slice an nn cn) (a1 := .slice ar nr cr) (b0 := .slice a1 nn c1) (b1 := .slice a2 nr c2) (c0 := .slice p1 m1 d1) (c1 := .slice p2 m2 d2) (by assumption))); rintro e wf ⟨rfl, bf⟩))
  have HBE : Hid (Below w.heap.size w wf) := Bt HB4.out (h6_bel (p := gb) (q := gt) (r := gc) (a0 := .slice an nn cn) (a1 := .slice ar nr cr) (b0 := .slice a1 nn c1) (b1 := .slice a2 nr c2) (c0 := .slice p1 m1 d1) (c1 := .slice p2 m2 d2) (by assumption))
  rename_i hHeld
  clear hHeld
  go_wp2
  go_ret
  exact ⟨rfl, HBE.out⟩
end Go.Proofs.YtgoaaeiefpdkpaaDoor

set_option linter.unusedVariables false
set_option linter.unusedSimpArgs false
set_option maxRecDepth 100000
namespace Go.Proofs.YtgoaaeiefpdkpaaDoor
open Go.ChangeShapes Go.WideShapes Go.ChangeAt Go.RowKit Go.Joins Go.Deep

theorem own : ownKnob Tryd.prog.godebug = none := by kernel_rfl
theorem laidOut : laidOutB Tryd.prog = true := by kernel_rfl
theorem cellsGraph : Tryd.prog.cellsOf 25 = 2 := by kernel_rfl
theorem cellsNode : Tryd.prog.cellsOf 34 = 4 := by kernel_rfl
theorem cellsI : Tryd.prog.cellsOf 3 = 1 := by kernel_rfl
theorem cellsS : Tryd.prog.cellsOf 9 = 1 := by kernel_rfl
theorem cellsIs : Tryd.prog.cellsOf 23 = 1 := by kernel_rfl

theorem addp (b o k : Nat) : Addr.add ⟨b, o, none⟩ k = ⟨b, o + k, none⟩ := by
  unfold Addr.add
  by_cases h : k = 0
  · subst h; simp
  · rw [if_neg h]
theorem plain_of {W : World} {a : Addr} {v : Value} (h : W.cell? a = some v) : ∃ b o, a = ⟨b, o, none⟩ ∧ b < W.heap.size := by
  obtain ⟨bb, o, sp⟩ := a
  have hsp : sp = none := by
    cases sp with
    | none => rfl
    | some k =>
      exfalso
      simp [World.cell?] at h
      split at h <;> simp_all
  subst hsp
  exact ⟨bb, o, rfl, World.block_lt_of_cell? W ⟨bb, o, none⟩ h⟩
theorem add0 (a : Addr) : a.add 0 = a := by simp [Addr.add]

section
variable {H : Type} {enc : TypeId × Value → H} {W : World} {base : Nat} {spare : Nat → Bool} {held : Bool}
theorem ints_arg {fuel : Nat} {cs : List Value} {y : DataW H × List MemPlace} (h : DataW.trod enc Tryd.prog W base spare held fuel 23 cs = some y) : ∃ ao n cap l, cs = [.slice ao n cap] ∧ IRow W ao n cap l := by
  rcases open_ints Tryd.underlying23 Tryd.underlying3 cellsI h with ⟨rfl, _⟩ | ⟨a, len, cap, zs, rfl, _, hl, hm, hz, _, hcell, hwz⟩
  · exact ⟨none, 0, 0, [], rfl, IRow.nil _ _⟩
  · have hzl : len ≤ zs.length := by rw [hz]; split <;> omega
    have hlen : (zs.take len).length = len := by rw [List.length_take, Nat.min_eq_left hzl]
    refine ⟨some a, len, cap, zs.take len, rfl, hlen, hl, hm, fun h => (by cases h), ?_, ?_⟩
    · intro z hz'
      have := bounds_i64 (hwz z (List.mem_of_mem_take hz'))
      unfold I64; omega
    · by_cases h0 : len = 0
      · subst h0; exact .inl (by simp)
      · have hc0 := hcell 0 (by omega)
        rw [add0] at hc0
        obtain ⟨bb, o, rfl, hlt⟩ := plain_of hc0
        refine .inr ⟨bb, o, rfl, hlt, fun i hi => ?_⟩
        rw [hlen] at hi
        have hci := hcell i (by omega)
        rw [addp] at hci
        rw [hci, List.getD_eq_getElem?_getD, List.getD_eq_getElem?_getD, List.getElem?_take, if_pos hi]

theorem node_arg {n : Nat} {cs : List Value} {y : DataW H × List MemPlace} {b k : Nat} (hc : W.cells? base ⟨b, k, none⟩ 4 = some cs) (h : DataW.trod enc Tryd.prog W base spare held n 34 cs = some y) : ∃ d, NdAt W b k d ∧ NdOk d := by
  obtain ⟨_, hlen, hcell⟩ := World.cells?_some hc
  obtain ⟨xs, m, hm, hxy, _, hxl, hf⟩ := DataW.trod_struct Tryd.underlying34 h
  match xs, hxl, cs, hlen with
  | [y0, y1, y2, y3], _, [v0, v1, v2, v3], _ =>
    have g0 := hf 0 _ rfl
    have g1 := hf 1 _ rfl
    have g2 := hf 2 _ rfl
    have g3 := hf 3 _ rfl
    simp [cellsI, cellsS, cellsIs] at g0 g1 g2 g3
    have e0 := hcell 0 (by omega)
    have e1 := hcell 1 (by omega)
    have e2 := hcell 2 (by omega)
    have e3 := hcell 3 (by omega)
    rw [addp] at e0 e1 e2 e3
    obtain ⟨z0, q0, _, w0⟩ := DataW.trod_int Tryd.underlying3 g0
    obtain ⟨z1, q1, _, w1⟩ := DataW.trod_int Tryd.underlying3 g1
    obtain ⟨s, q2, _, w2⟩ := DataW.trod_string Tryd.underlying9 g2
    obtain ⟨ao, nk, ck, l, q3, hI⟩ := ints_arg g3
    cases q0; cases q1; cases q2; cases q3
    have b0 := bounds_i64 w0
    have b1 := bounds_i64 w1
    exact ⟨⟨z0, z1, s, l⟩, ⟨by simpa using e0, by simpa using e1, by simpa using e2, ao, nk, ck, by simpa using e3, hI⟩, ⟨by unfold I64; omega, by unfold I64; omega, w2⟩⟩

theorem nodes_arg {fuel : Nat} {cs : List Value} {y : DataW H × List MemPlace} (h : DataW.trod enc Tryd.prog W base spare held fuel 22 cs = some y) : ∃ ao n cap l, cs = [.slice ao n cap] ∧ NRow W ao n cap l := by
  rcases open_slice Tryd.underlying22 h with ⟨rfl, _⟩ | ⟨a, len, cap, m, n, D, Pl, rfl, _, hl, hm, hmm, _, hx⟩
  · exact ⟨none, 0, 0, [], rfl, NRow.nil _ _⟩
  · have hlm : len ≤ m := by rw [hmm]; split <;> omega
    by_cases h0 : len = 0
    · subst h0
      exact ⟨some a, 0, cap, [], rfl, rfl, hl, hm, fun e => (by cases e), fun _ e => (by cases e), .inl rfl⟩
    · have hp : ∃ b o, a = ⟨b, o, none⟩ ∧ b < W.heap.size := by
        obtain ⟨cs', h1, _⟩ := hx 0 (by omega)
        rw [cellsNode, Nat.zero_mul, add0] at h1
        obtain ⟨_, hlen, hcell⟩ := World.cells?_some h1
        have := hcell 0 (by omega)
        rw [add0, List.getElem?_eq_getElem (by omega)] at this
        exact plain_of this
      obtain ⟨b, o, rfl, hb⟩ := hp
      have each : ∀ i, i < len → ∃ d : Nd, NdAt W b (o + i * 4) d ∧ NdOk d := fun i hi => by
        obtain ⟨cs', h1, h2⟩ := hx i (by omega)
        rw [cellsNode, addp] at h1
        exact node_arg h1 h2
      obtain ⟨q, hq⟩ := choose_lt each
      have hget : ∀ i, i < len → ((List.range len).map q).getD i default = q i := fun i hi => by
        rw [List.getD_eq_getElem?_getD, List.getElem?_map, List.getElem?_range hi]; rfl
      refine ⟨some ⟨b, o, none⟩, len, cap, (List.range len).map q, rfl, by simp, hl, hm, fun e => (by cases e), ?_, .inr ⟨b, o, rfl, hb, fun i hi => ?_⟩⟩
      · intro d hd
        obtain ⟨i, hi, rfl⟩ := List.mem_map.1 hd
        exact (hq i (List.mem_range.1 hi)).2
      · have hi' : i < len := by simpa using hi
        rw [hget i hi']; exact (hq i hi').1
end
theorem graph_arg {H : Type} {enc : TypeId × Value → H} {W : World} {r : Reach} {b0 : Nat} {v : Value} {d : DataW H} {p : List MemPlace} {base : Nat} {spare : TypeId → Bool} {held : Bool}
    (hv : Value.okWide Tryd.prog W r b0 25 v) (h : DataW.Trod enc Tryd.prog W base spare held 25 v d p) :
    ∃ an nn cn ar nr cr ns rs, v = GVal an nn cn ar nr cr ∧ GIs W an nn cn ar nr cr ns rs := by
  obtain ⟨c0, c1, y0, y1, m, rfl, rfl, rfl, hy0, hy1⟩ := open_agg2 Tryd.underlying25 (by kernel_rfl) cellsGraph hv h
  obtain ⟨an, nn, cn, ns, q0, hN⟩ := nodes_arg hy0
  obtain ⟨ar, nr, cr, rs, q1, hR⟩ := ints_arg hy1
  cases q0; cases q1
  exact ⟨an, nn, cn, ar, nr, cr, ns, rs, rfl, hN, hR⟩
end Go.Proofs.YtgoaaeiefpdkpaaDoor
