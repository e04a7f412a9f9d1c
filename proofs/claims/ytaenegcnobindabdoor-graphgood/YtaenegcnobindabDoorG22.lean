/-
  The walk of GraphGood.
-/
import Derived.Test.YtaenegcnobindabDoorG21
import Derived.Test.YtaenegcnobindabDoorG12
import Derived.Test.YtaenegcnobindabDoorG1
set_option linter.unusedVariables false
set_option linter.unusedSimpArgs false
namespace Go.Proofs.YtaenegcnobindabDoor
open Go.RowKit

theorem few_parts {ns : List Nd} {rs : List Int} {most : Nat} (h : fewB ns rs most = true) : ns.length ≤ most ∧ rs.length ≤ most ∧ smallG ns ∧ ∀ d ∈ ns, d.kids.length ≤ 100 := by
  unfold fewB fewTo at h
  rw [List.take_length] at h
  simp only [Bool.and_eq_true, decide_eq_true_eq, List.all_eq_true] at h
  exact ⟨h.1.1, h.1.2, fun d hd => (h.2 d hd).1, fun d hd => (h.2 d hd).2⟩

theorem gone_on {W wx wy : World} {p : Nat} {a0 a1 : Value} (h : wx.cell? ⟨p, 0, none⟩ = some a0 ∧ wx.cell? ⟨p, 1, none⟩ = some a1 ∧ Below W.heap.size W wx) (hb : Below wx.heap.size wx wy) :
    wy.cell? ⟨p, 0, none⟩ = some a0 ∧ wy.cell? ⟨p, 1, none⟩ = some a1 ∧ Below W.heap.size W wy :=
  ⟨(hb.cell (p := ⟨p, 0, none⟩) (cell_lt h.1)).trans h.1, (hb.cell (p := ⟨p, 1, none⟩) (cell_lt h.1)).trans h.2.1, Bt h.2.2 hb⟩
theorem gone_bel {W wx : World} {p : Nat} {a0 a1 : Value} (h : wx.cell? ⟨p, 0, none⟩ = some a0 ∧ wx.cell? ⟨p, 1, none⟩ = some a1 ∧ Below W.heap.size W wx) : Below W.heap.size W wx := h.2.2

set_option maxHeartbeats 4000000 in
theorem graphGood_walk (an ar : Option Addr) (nn cn nr cr : Nat) (ns : List Nd) (rs : List Int) (kind : Int) (w : World) (G : GIs w an nn cn ar nr cr ns rs) (hk1 : I64 kind) (hT : Tabs w) :
    Calls Tryd.prog 3 #[GVal an nn cn ar nr cr, .int .i64 kind] w fun e w' => e = .returned (.bool true) ∧ Below w.heap.size w w' := by
  have HG := hid G
  have HT := hid hT
  have hlen := G.nodes.len
  have hrl := G.roots.len
  unfold GVal
  clear G hT
  go_enter Tryd.func3, Tryd.ntmps3
  go_wp2_with fail
  have bA := Ba w (.cells #[.slice an nn cn, .slice ar nr cr] 25)
  have x1 := GBox.new 25 w an ar nn cn nr cr
  generalize w.alloc (.cells #[.slice an nn cn, .slice ar nr cr] 25) = W1 at *
  obtain ⟨gb, hgb⟩ : ∃ g, g = w.heap.size := ⟨_, rfl⟩
  rw [← hgb] at x1
  rw [← hgb]
  clear hgb
  refine (few_any an ar nn cn nr cr ns rs 100 (by omega) W1 (HG.out.below bA)).mono ?_
  rintro e W ⟨rfl, b2⟩
  have y1 := x1.on b2
  have HBW := hid (Bt bA b2)
  obtain ⟨hc0, hc1⟩ := y1.c
  have HS0 : Hid (W.cell? ⟨gb, 0, none⟩ = some (.slice an nn cn) ∧ W.cell? ⟨gb, 1, none⟩ = some (.slice ar nr cr) ∧ Below W.heap.size W W) := ⟨hc0, hc1, Below.refl _ _⟩
  have GW := hid (HG.out.below HBW.out)
  have TW := hid (HT.out.below HBW.out)
  clear bA x1 b2 y1 HG HT
  obtain ⟨fb, hfb⟩ : ∃ gd, gd = fewB ns rs 100 := ⟨_, rfl⟩
  rw [← hfb]
  have HFB := hid hfb
  clear hfb
  cases fb
  · go_wp2_with fail
    go_ret
    exact ⟨rfl, HBW.out⟩
  · obtain ⟨f1, f2, f3, f4⟩ := few_parts HFB.out.symm
    rw [hlen] at f1
    obtain ⟨gd, hgd⟩ : ∃ gd, gd = goodG ns rs := ⟨_, rfl⟩
    obtain ⟨at_, hat⟩ : ∃ a, a = atomB kind := ⟨_, rfl⟩
    have C1 : Hid (∀ wx, GIs wx an nn cn ar nr cr ns rs → Tabs wx → Calls Tryd.prog 5 #[.agg #[.slice an nn cn, .slice ar nr cr]] wx fun e w' => e = .returned (.bool gd) ∧ Below wx.heap.size wx w') := fun wx r t => by rw [hgd]; exact good_g an ar nn cn nr cr ns rs wx r f3 (by omega) t
    have C2 : Hid (∀ wx, GIs wx an nn cn ar nr cr ns rs → Calls Tryd.prog 6 #[.agg #[.slice an nn cn, .slice ar nr cr]] wx fun e w' => e = .returned (.bool gd) ∧ Below wx.heap.size wx w') := fun wx r => by rw [hgd]; exact rgood_g an ar nn cn nr cr ns rs wx r f3 (by omega)
    have C3 : Hid (∀ wx, Calls Tryd.prog 7 #[.int .i64 kind] wx fun e w' => e = .returned (.bool at_) ∧ Below wx.heap.size wx w') := fun wx => by rw [hat]; exact (atom_any kind wx).mono (fun e w' h => ⟨h.1, h.2 ▸ Below.refl _ _⟩)
    have C4 : Hid (∀ wx, Calls Tryd.prog 8 #[.int .i64 kind] wx fun e w' => e = .returned (.bool at_) ∧ Below wx.heap.size wx w') := fun wx => by rw [hat]; exact (ratom_any kind wx).mono (fun e w' h => ⟨h.1, h.2 ▸ Below.refl _ _⟩)
    have e2 : (gd == gd) = true := by simp
    have e3 : (at_ == at_) = true := by simp
    clear hgd hat f1 f2 f3 f4
    go_wp2_with fail
    go_region_held3 (fun wx => wx.cell? ⟨gb, 0, none⟩ = some (.slice an nn cn) ∧ wx.cell? ⟨gb, 1, none⟩ = some (.slice ar nr cr) ∧ Below W.heap.size W wx)
      (first | exact gone_on HS0.out (Bd W 1) | exact gone_on (by assumption) (by assumption))
      (first
        | (go_at_call 5; refine (C1.out _ ?_ ?_).mono ?_; (exact GW.out.below (gone_bel (p := gb) (a0 := .slice an nn cn) (a1 := .slice ar nr cr) (by assumption))); (exact TW.out.below (gone_bel (p := gb) (a0 := .slice an nn cn) (a1 := .slice ar nr cr) (by assumption))); rintro e wa ⟨rfl, ba⟩)
        | (go_at_call 6; refine (C2.out _ ?_).mono ?_; (exact GW.out.below (gone_bel (p := gb) (a0 := .slice an nn cn) (a1 := .slice ar nr cr) (by assumption))); rintro e wb ⟨rfl, bb⟩)
        | (go_at_call 7; refine (C3.out _).mono ?_; rintro e wd ⟨rfl, bd⟩)
        | (go_at_call 8; refine (C4.out _).mono ?_; rintro e we ⟨rfl, be⟩)
        | (go_at_call 9; refine (wakes_any _ ?_).mono ?_; (exact TW.out.below (gone_bel (p := gb) (a0 := .slice an nn cn) (a1 := .slice ar nr cr) (by assumption))); rintro e wc ⟨rfl, bc⟩))
    have HBE : Hid (Below w.heap.size w wc) := Bt HBW.out (gone_bel (p := gb) (a0 := .slice an nn cn) (a1 := .slice ar nr cr) (by assumption))
    rename_i hHeld
    clear hHeld
    go_wp2
    go_ret
    exact ⟨rfl, HBE.out⟩
end Go.Proofs.YtaenegcnobindabDoor
