/-
  The walk of GraphEqual.
-/
import Derived.Test.YtaenegcnobindacDoorH5
import Derived.Test.YtaenegcnobindacDoorG22
set_option linter.unusedVariables false
set_option linter.unusedSimpArgs false
set_option maxRecDepth 100000
namespace Go.Proofs.YtaenegcnobindacDoor
open Go.RowKit

theorem sameGB_self (ns : List Nd) (rs : List Int) : sameGB ns rs ns rs = goodG ns rs := by unfold sameGB; simp
theorem sameGB_comm (ns : List Nd) (rs : List Int) (ns' : List Nd) (rs' : List Int) : sameGB ns rs ns' rs' = sameGB ns' rs' ns rs := by
  unfold sameGB; rw [Bool.eq_iff_iff]; simp only [Bool.and_eq_true, decide_eq_true_eq]
  constructor
  · rintro ⟨⟨⟨h1, h2⟩, h3⟩, h4⟩; exact ⟨⟨⟨h2, h1⟩, h3.symm⟩, h4.symm⟩
  · rintro ⟨⟨⟨h1, h2⟩, h3⟩, h4⟩; exact ⟨⟨⟨h2, h1⟩, h3.symm⟩, h4.symm⟩
theorem sameGB_trans {ns : List Nd} {rs : List Int} {ns' : List Nd} {rs' : List Int} {ns'' : List Nd} {rs'' : List Int} (h1 : sameGB ns rs ns' rs' = true) (h2 : sameGB ns' rs' ns'' rs'' = true) : sameGB ns rs ns'' rs'' = true := by
  unfold sameGB at *; simp only [Bool.and_eq_true, decide_eq_true_eq] at *
  exact ⟨⟨⟨h1.1.1.1, h2.1.1.2⟩, h1.1.2.trans h2.1.2⟩, h1.2.trans h2.2⟩
theorem gok_of {w : World} {an ar : Option Addr} {nn cn nr cr : Nat} {ns : List Nd} {rs : List Int} (h : GIs w an nn cn ar nr cr ns rs) (hf : fewB ns rs 100 = true) : GOk w an nn cn ar nr cr ns rs := by
  obtain ⟨f1, f2, f3, f4⟩ := few_parts hf
  rw [h.nodes.len] at f1
  rw [h.roots.len] at f2
  exact ⟨h, f3, f4, by omega, by omega⟩

/-- Three boxes, in a world behind w1. -/
def H3b (w1 : World) (p q r : Nat) (a0 a1 b0 b1 c0 c1 : Value) (wx : World) : Prop := (wx.cell? ⟨p, 0, none⟩ = some a0 ∧ wx.cell? ⟨p, 1, none⟩ = some a1 ∧ wx.cell? ⟨q, 0, none⟩ = some b0 ∧ wx.cell? ⟨q, 1, none⟩ = some b1 ∧ wx.cell? ⟨r, 0, none⟩ = some c0 ∧ wx.cell? ⟨r, 1, none⟩ = some c1) ∧ Below w1.heap.size w1 wx
theorem H3b.on {w1 wx wy : World} {p q r : Nat} {a0 a1 b0 b1 c0 c1 : Value} (h : H3b w1 p q r a0 a1 b0 b1 c0 c1 wx) (hb : Below wx.heap.size wx wy) : H3b w1 p q r a0 a1 b0 b1 c0 c1 wy := by
  obtain ⟨⟨h1, h2, h3, h4, h5, h6⟩, h7⟩ := h
  exact ⟨⟨(hb.cell (p := ⟨p, 0, none⟩) (cell_lt h1)).trans h1, (hb.cell (p := ⟨p, 1, none⟩) (cell_lt h1)).trans h2, (hb.cell (p := ⟨q, 0, none⟩) (cell_lt h3)).trans h3, (hb.cell (p := ⟨q, 1, none⟩) (cell_lt h3)).trans h4, (hb.cell (p := ⟨r, 0, none⟩) (cell_lt h5)).trans h5, (hb.cell (p := ⟨r, 1, none⟩) (cell_lt h5)).trans h6⟩, Bt h7 hb⟩

theorem H3b.bel {w1 wx : World} {p q r : Nat} {a0 a1 b0 b1 c0 c1 : Value} (h : H3b w1 p q r a0 a1 b0 b1 c0 c1 wx) : Below w1.heap.size w1 wx := h.2
theorem h6_on {w1 wx wy : World} {p q r : Nat} {a0 a1 b0 b1 c0 c1 : Value} (h : wx.cell? ⟨p, 0, none⟩ = some a0 ∧ wx.cell? ⟨p, 1, none⟩ = some a1 ∧ wx.cell? ⟨q, 0, none⟩ = some b0 ∧ wx.cell? ⟨q, 1, none⟩ = some b1 ∧ wx.cell? ⟨r, 0, none⟩ = some c0 ∧ wx.cell? ⟨r, 1, none⟩ = some c1 ∧ Below w1.heap.size w1 wx) (hb : Below wx.heap.size wx wy) : wy.cell? ⟨p, 0, none⟩ = some a0 ∧ wy.cell? ⟨p, 1, none⟩ = some a1 ∧ wy.cell? ⟨q, 0, none⟩ = some b0 ∧ wy.cell? ⟨q, 1, none⟩ = some b1 ∧ wy.cell? ⟨r, 0, none⟩ = some c0 ∧ wy.cell? ⟨r, 1, none⟩ = some c1 ∧ Below w1.heap.size w1 wy := by
  obtain ⟨h1, h2, h3, h4, h5, h6, h7⟩ := h
  exact ⟨(hb.cell (p := ⟨p, 0, none⟩) (cell_lt h1)).trans h1, (hb.cell (p := ⟨p, 1, none⟩) (cell_lt h1)).trans h2, (hb.cell (p := ⟨q, 0, none⟩) (cell_lt h3)).trans h3, (hb.cell (p := ⟨q, 1, none⟩) (cell_lt h3)).trans h4, (hb.cell (p := ⟨r, 0, none⟩) (cell_lt h5)).trans h5, (hb.cell (p := ⟨r, 1, none⟩) (cell_lt h5)).trans h6, Bt h7 hb⟩
theorem h6_bel {w1 wx : World} {p q r : Nat} {a0 a1 b0 b1 c0 c1 : Value} (h : wx.cell? ⟨p, 0, none⟩ = some a0 ∧ wx.cell? ⟨p, 1, none⟩ = some a1 ∧ wx.cell? ⟨q, 0, none⟩ = some b0 ∧ wx.cell? ⟨q, 1, none⟩ = some b1 ∧ wx.cell? ⟨r, 0, none⟩ = some c0 ∧ wx.cell? ⟨r, 1, none⟩ = some c1 ∧ Below w1.heap.size w1 wx) : Below w1.heap.size w1 wx := h.2.2.2.2.2.2

end Go.Proofs.YtaenegcnobindacDoor

set_option linter.unusedVariables false
set_option linter.unusedSimpArgs false
set_option maxRecDepth 100000
namespace Go.Proofs.YtaenegcnobindacDoor
open Go.RowKit

set_option maxHeartbeats 4000000 in
theorem graphEqual_walk (an ar : Option Addr) (nn cn nr cr : Nat) (ns : List Nd) (rs : List Int) (an' ar' : Option Addr) (nn' cn' nr' cr' : Nat) (ns' : List Nd) (rs' : List Int) (an2 ar2 : Option Addr) (nn2 cn2 nr2 cr2 : Nat) (ns2 : List Nd) (rs2 : List Int) (w : World) (G : GIs w an nn cn ar nr cr ns rs) (G' : GIs w an' nn' cn' ar' nr' cr' ns' rs') (G2 : GIs w an2 nn2 cn2 ar2 nr2 cr2 ns2 rs2) (hT : Tabs w) :
    Calls Tryd.prog 7 #[GVal an nn cn ar nr cr, GVal an' nn' cn' ar' nr' cr', GVal an2 nn2 cn2 ar2 nr2 cr2] w fun e w' => e = .returned (.bool true) ∧ Below w.heap.size w w' := by
  have HG := hid G
  have HG' := hid G'
  have HG2 := hid G2
  have HT := hid hT
  unfold GVal
  clear G G' G2 hT
  go_enter Tryd.func7, Tryd.ntmps7
  go_wp2_with fail
  have b1 := Ba w (.cells #[.slice an nn cn, .slice ar nr cr] 25)
  have x1 := GBox.new 25 w an ar nn cn nr cr
  have s1 := size_alloc w (.cells #[.slice an nn cn, .slice ar nr cr] 25)
  generalize w.alloc (.cells #[.slice an nn cn, .slice ar nr cr] 25) = W1 at *
  have b2 := Baa W1 (.cells #[.slice an' nn' cn', .slice ar' nr' cr'] 25) (.cells #[.slice an2 nn2 cn2, .slice ar2 nr2 cr2] 25)
  obtain ⟨x2, x3⟩ := two_new W1 (.cells #[.slice an' nn' cn', .slice ar' nr' cr'] 25) (.cells #[.slice an2 nn2 cn2, .slice ar2 nr2 cr2] 25)
  rw [s1] at x2 x3
  have y1 := x1.on b2
  have b12 := Bt b1 b2
  generalize (W1.alloc (.cells #[.slice an' nn' cn', .slice ar' nr' cr'] 25)).alloc (.cells #[.slice an2 nn2 cn2, .slice ar2 nr2 cr2] 25) = W2 at *
  obtain ⟨g1, hg1⟩ : ∃ g, g = w.heap.size := ⟨_, rfl⟩
  obtain ⟨g2, hg2⟩ : ∃ g, g = w.heap.size + 1 := ⟨_, rfl⟩
  obtain ⟨g3, hg3⟩ : ∃ g, g = w.heap.size + 1 + 1 := ⟨_, rfl⟩
  rw [← hg1] at y1
  rw [← hg2] at x2
  rw [← hg3] at x3
  rw [← hg3, ← hg2, ← hg1]
  have HH : Hid (H3b W2 g1 g2 g3 (.slice an nn cn) (.slice ar nr cr) (.slice an' nn' cn') (.slice ar' nr' cr') (.slice an2 nn2 cn2) (.slice ar2 nr2 cr2) W2) := ⟨⟨blk_cell y1 0, blk_cell y1 1, blk_cell x2 0, blk_cell x2 1, blk_cell x3 0, blk_cell x3 1⟩, Below.refl _ _⟩
  have HB := hid b12
  clear hg1 hg2 hg3 x1 x2 x3 y1 b1 b2 b12 s1
  refine (few_any an ar nn cn nr cr ns rs 100 (by omega) W2 (HG.out.below HB.out)).mono ?_
  rintro e w3 ⟨rfl, b3⟩
  have HH3 := hid (HH.out.on b3)
  clear b3
  obtain ⟨⟨c1, c2, c3, c4, c5, c6⟩, _⟩ := HH3.out
  obtain ⟨f1, hf1⟩ : ∃ f, f = fewB ns rs 100 := ⟨_, rfl⟩
  rw [← hf1]
  have HF1 := hid hf1
  clear hf1
  cases f1
  · go_wp2_with fail
    go_ret
    exact ⟨rfl, Bt HB.out HH3.out.2⟩
  · go_wp2_with fail
    refine (few_any an' ar' nn' cn' nr' cr' ns' rs' 100 (by omega) w3 (HG'.out.below (Bt HB.out HH3.out.2))).mono ?_
    rintro e w4 ⟨rfl, b4⟩
    have HH4 := hid (HH3.out.on b4)
    clear b4 c1 c2 c3 c4 c5 c6 HH3
    obtain ⟨⟨c1, c2, c3, c4, c5, c6⟩, _⟩ := HH4.out
    obtain ⟨f2, hf2⟩ : ∃ f, f = fewB ns' rs' 100 := ⟨_, rfl⟩
    rw [← hf2]
    have HF2 := hid hf2
    clear hf2
    cases f2
    · go_wp2_with fail
      go_ret
      exact ⟨rfl, Bt HB.out HH4.out.2⟩
    · go_wp2_with fail
      refine (few_any an2 ar2 nn2 cn2 nr2 cr2 ns2 rs2 100 (by omega) w4 (HG2.out.below (Bt HB.out HH4.out.2))).mono ?_
      rintro e w5 ⟨rfl, b5⟩
      have HH5 := hid (HH4.out.on b5)
      clear b5 c1 c2 c3 c4 c5 c6 HH4
      obtain ⟨⟨c1, c2, c3, c4, c5, c6⟩, _⟩ := HH5.out
      obtain ⟨f3, hf3⟩ : ∃ f, f = fewB ns2 rs2 100 := ⟨_, rfl⟩
      rw [← hf3]
      have HF3 := hid hf3
      clear hf3
      cases f3
      · go_wp2_with fail
        go_ret
        exact ⟨rfl, Bt HB.out HH5.out.2⟩
      · have K1 := hid (gok_of (HG.out.below (Bt HB.out HH5.out.2)) HF1.out.symm)
        have K2 := hid (gok_of (HG'.out.below (Bt HB.out HH5.out.2)) HF2.out.symm)
        have K3 := hid (gok_of (HG2.out.below (Bt HB.out HH5.out.2)) HF3.out.symm)
        have T5 := hid (HT.out.below (Bt HB.out HH5.out.2))
        have HB5 := hid (Bt HB.out HH5.out.2)
        have HS5 : Hid (H3b w5 g1 g2 g3 (.slice an nn cn) (.slice ar nr cr) (.slice an' nn' cn') (.slice ar' nr' cr') (.slice an2 nn2 cn2) (.slice ar2 nr2 cr2) w5) := ⟨HH5.out.1, Below.refl _ _⟩
        clear HG HG' HG2 HT HH HB HH5
        go_wp2_with fail
        obtain ⟨ab, hab⟩ : ∃ x, x = sameGB ns rs ns' rs' := ⟨_, rfl⟩
        obtain ⟨bc, hbc⟩ : ∃ x, x = sameGB ns' rs' ns2 rs2 := ⟨_, rfl⟩
        obtain ⟨ac, hac⟩ : ∃ x, x = sameGB ns rs ns2 rs2 := ⟨_, rfl⟩
        obtain ⟨ga, hga⟩ : ∃ x, x = goodG ns rs := ⟨_, rfl⟩
        have tr : Hid (ab = true → bc = true → ac = true) := fun h1 h2 => by rw [hac]; exact sameGB_trans (hab ▸ h1) (hbc ▸ h2)
        have C1 : Hid (∀ wx, Below w5.heap.size w5 wx → Calls Tryd.prog 18 #[.agg #[.slice an nn cn, .slice ar nr cr], .agg #[.slice an' nn' cn', .slice ar' nr' cr']] wx fun e w' => e = .returned (.bool ab) ∧ Below wx.heap.size wx w') := fun wx hb => by rw [hab]; exact same_g _ _ _ _ _ _ _ _ _ _ _ _ _ _ _ _ wx (K1.out.below hb) (K2.out.below hb) (T5.out.below hb)
        have C2 : Hid (∀ wx, Below w5.heap.size w5 wx → Calls Tryd.prog 18 #[.agg #[.slice an' nn' cn', .slice ar' nr' cr'], .agg #[.slice an2 nn2 cn2, .slice ar2 nr2 cr2]] wx fun e w' => e = .returned (.bool bc) ∧ Below wx.heap.size wx w') := fun wx hb => by rw [hbc]; exact same_g _ _ _ _ _ _ _ _ _ _ _ _ _ _ _ _ wx (K2.out.below hb) (K3.out.below hb) (T5.out.below hb)
        have C3 : Hid (∀ wx, Below w5.heap.size w5 wx → Calls Tryd.prog 18 #[.agg #[.slice an nn cn, .slice ar nr cr], .agg #[.slice an2 nn2 cn2, .slice ar2 nr2 cr2]] wx fun e w' => e = .returned (.bool ac) ∧ Below wx.heap.size wx w') := fun wx hb => by rw [hac]; exact same_g _ _ _ _ _ _ _ _ _ _ _ _ _ _ _ _ wx (K1.out.below hb) (K3.out.below hb) (T5.out.below hb)
        have C4 : Hid (∀ wx, Below w5.heap.size w5 wx → Calls Tryd.prog 18 #[.agg #[.slice an nn cn, .slice ar nr cr], .agg #[.slice an nn cn, .slice ar nr cr]] wx fun e w' => e = .returned (.bool ga) ∧ Below wx.heap.size wx w') := fun wx hb => by rw [hga, ← sameGB_self]; exact same_g _ _ _ _ _ _ _ _ _ _ _ _ _ _ _ _ wx (K1.out.below hb) (K1.out.below hb) (T5.out.below hb)
        have C5 : Hid (∀ wx, Below w5.heap.size w5 wx → Calls Tryd.prog 18 #[.agg #[.slice an' nn' cn', .slice ar' nr' cr'], .agg #[.slice an nn cn, .slice ar nr cr]] wx fun e w' => e = .returned (.bool ab) ∧ Below wx.heap.size wx w') := fun wx hb => by rw [hab, sameGB_comm]; exact same_g _ _ _ _ _ _ _ _ _ _ _ _ _ _ _ _ wx (K2.out.below hb) (K1.out.below hb) (T5.out.below hb)
        have C6 : Hid (∀ wx, Below w5.heap.size w5 wx → Calls Tryd.prog 20 #[.agg #[.slice an nn cn, .slice ar nr cr]] wx fun e w' => e = .returned (.bool ga) ∧ Below wx.heap.size wx w') := fun wx hb => by rw [hga]; exact rgood_g _ _ _ _ _ _ _ _ wx (K1.out.below hb).is K1.out.small K1.out.nn_le
        clear hab hbc hac hga
        have HS6 : Hid (w5.cell? ⟨g1, 0, none⟩ = some (.slice an nn cn) ∧ w5.cell? ⟨g1, 1, none⟩ = some (.slice ar nr cr) ∧ w5.cell? ⟨g2, 0, none⟩ = some (.slice an' nn' cn') ∧ w5.cell? ⟨g2, 1, none⟩ = some (.slice ar' nr' cr') ∧ w5.cell? ⟨g3, 0, none⟩ = some (.slice an2 nn2 cn2) ∧ w5.cell? ⟨g3, 1, none⟩ = some (.slice ar2 nr2 cr2) ∧ Below w5.heap.size w5 w5) := ⟨c1, c2, c3, c4, c5, c6, Below.refl _ _⟩
        go_region_held3 (fun wx => wx.cell? ⟨g1, 0, none⟩ = some (.slice an nn cn) ∧ wx.cell? ⟨g1, 1, none⟩ = some (.slice ar nr cr) ∧ wx.cell? ⟨g2, 0, none⟩ = some (.slice an' nn' cn') ∧ wx.cell? ⟨g2, 1, none⟩ = some (.slice ar' nr' cr') ∧ wx.cell? ⟨g3, 0, none⟩ = some (.slice an2 nn2 cn2) ∧ wx.cell? ⟨g3, 1, none⟩ = some (.slice ar2 nr2 cr2) ∧ Below w5.heap.size w5 wx)
          (first | exact h6_on HS6.out (Bd w5 1) | exact h6_on (by assumption) (by assumption))
          (first
            | (go_at_call 18; with_reducible refine (C1.out _ ?_).mono ?_; (exact h6_bel (p := g1) (q := g2) (r := g3) (a0 := .slice an nn cn) (a1 := .slice ar nr cr) (b0 := .slice an' nn' cn') (b1 := .slice ar' nr' cr') (c0 := .slice an2 nn2 cn2) (c1 := .slice ar2 nr2 cr2) (by assumption)); rintro e wa ⟨rfl, ba⟩)
            | (go_at_call 18; with_reducible refine (C2.out _ ?_).mono ?_; (exact h6_bel (p := g1) (q := g2) (r := g3) (a0 := .slice an nn cn) (a1 := .slice ar nr cr) (b0 := .slice an' nn' cn') (b1 := .slice ar' nr' cr') (c0 := .slice an2 nn2 cn2) (c1 := .slice ar2 nr2 cr2) (by assumption)); rintro e wb ⟨rfl, bb⟩)
            | (go_at_call 18; with_reducible refine (C3.out _ ?_).mono ?_; (exact h6_bel (p := g1) (q := g2) (r := g3) (a0 := .slice an nn cn) (a1 := .slice ar nr cr) (b0 := .slice an' nn' cn') (b1 := .slice ar' nr' cr') (c0 := .slice an2 nn2 cn2) (c1 := .slice ar2 nr2 cr2) (by assumption)); rintro e wc ⟨rfl, bc'⟩))
        have HS7 : Hid (H3b w5 g1 g2 g3 (.slice an nn cn) (.slice ar nr cr) (.slice an' nn' cn') (.slice ar' nr' cr') (.slice an2 nn2 cn2) (.slice ar2 nr2 cr2) wc) := by
          rename_i hh
          exact ⟨⟨hh.1, hh.2.1, hh.2.2.1, hh.2.2.2.1, hh.2.2.2.2.1, hh.2.2.2.2.2.1⟩, hh.2.2.2.2.2.2⟩
        have C7 : Hid (∀ wx, Below w5.heap.size w5 wx → Calls Tryd.prog 14 #[] wx fun e w' => e = .returned (.bool true) ∧ Below wx.heap.size wx w') := fun wx hb => wakes_any wx (T5.out.below hb)
        rename_i hHeld0
        clear hHeld0 c1 c2 c3 c4 c5 c6 HS6 C1 C2 C3 HS5
        have e1 : (ga == ga) = true := by simp
        cases ab
        · go_wp2_with fail
          refine wp_region_held_drew (S := H3b w5 g1 g2 g3 (.slice an nn cn) (.slice ar nr cr) (.slice an' nn' cn') (.slice ar' nr' cr') (.slice an2 nn2 cn2) (.slice ar2 nr2 cr2)) (by kernel_rfl) (HS7.out.on (Bd wc 1)) (fun hHeld => ?_)
          refine htake 0 (some 32) (.agg #[.slice an nn cn, .slice ar nr cr]) rfl rfl (by kernel_rfl) (by kernel_rfl) (by kernel_rfl) (fun _ _ _ h => h) (Or.inl ⟨by rfl, fun wx hSw => ?_⟩) (by assumption) ?_
          · obtain ⟨⟨s0, s1, s2, s3, s4, s5⟩, _⟩ := hSw
            go_simp
          simp only [Act.put, List.setIfInBounds_toArray, List.set_cons_zero, List.set_cons_succ]
          refine htake 1 (some 33) (.agg #[.slice an nn cn, .slice ar nr cr]) rfl rfl (by kernel_rfl) (by kernel_rfl) (by kernel_rfl) (fun _ _ _ h => h) (Or.inl ⟨by rfl, fun wx hSw => ?_⟩) (by assumption) ?_
          · obtain ⟨⟨s0, s1, s2, s3, s4, s5⟩, _⟩ := hSw
            go_simp
          simp only [Act.put, List.setIfInBounds_toArray, List.set_cons_zero, List.set_cons_succ]
          refine htake 3 (some 35) (.agg #[.slice an nn cn, .slice ar nr cr]) rfl rfl (by kernel_rfl) (by kernel_rfl) (by kernel_rfl) (fun _ _ _ h => h) (Or.inl ⟨by rfl, fun wx hSw => ?_⟩) (by assumption) ?_
          · obtain ⟨⟨s0, s1, s2, s3, s4, s5⟩, _⟩ := hSw
            go_simp
          simp only [Act.put, List.setIfInBounds_toArray, List.set_cons_zero, List.set_cons_succ]
          refine hone 2 _ rfl (by kernel_rfl) (fun K hK => ?_)
          go_simp
          go_at_call 18
          with_reducible refine (C4.out _ (H3b.bel hHeld)).mono ?_
          rintro e wy1 ⟨rfl, bb1⟩
          refine hK.out _ _ (hHeld.on bb1) (fun hHeld1 => ?_)
          clear hK K hHeld bb1
          (try simp only [Act.put, List.setIfInBounds_toArray, List.set_cons_zero, List.set_cons_succ])
          refine hone 4 _ rfl (by kernel_rfl) (fun K hK => ?_)
          go_simp
          go_at_call 20
          with_reducible refine (C6.out _ (H3b.bel hHeld1)).mono ?_
          rintro e wy2 ⟨rfl, bb2⟩
          refine hK.out _ _ (hHeld1.on bb2) (fun hHeld2 => ?_)
          clear hK K hHeld1 bb2
          (try simp only [Act.put, List.setIfInBounds_toArray, List.set_cons_zero, List.set_cons_succ])
          refine htake 5 (some 37) (.bool true) rfl rfl (by kernel_rfl) (by kernel_rfl) (by kernel_rfl) (fun _ _ _ h => h) (Or.inl ⟨by rfl, fun wx hSw => ?_⟩) (by assumption) ?_
          · obtain ⟨⟨s0, s1, s2, s3, s4, s5⟩, _⟩ := hSw
            go_simp
          simp only [Act.put, List.setIfInBounds_toArray, List.set_cons_zero, List.set_cons_succ]
          refine htake 6 (some 38) (.bool true) rfl rfl (by kernel_rfl) (by kernel_rfl) (by kernel_rfl) (fun _ _ _ h => h) (Or.inl ⟨by rfl, fun wx hSw => ?_⟩) (by assumption) ?_
          · obtain ⟨⟨s0, s1, s2, s3, s4, s5⟩, _⟩ := hSw
            go_simp
          simp only [Act.put, List.setIfInBounds_toArray, List.set_cons_zero, List.set_cons_succ]
          refine htake 7 (some 39) (.bool false) rfl rfl (by kernel_rfl) (by kernel_rfl) (by kernel_rfl) (fun _ _ _ h => h) (Or.inl ⟨by rfl, fun wx hSw => ?_⟩) (by assumption) ?_
          · obtain ⟨⟨s0, s1, s2, s3, s4, s5⟩, _⟩ := hSw
            go_simp
          simp only [Act.put, List.setIfInBounds_toArray, List.set_cons_zero, List.set_cons_succ]
          refine htake 8 (some 40) (.agg #[.slice an' nn' cn', .slice ar' nr' cr']) rfl rfl (by kernel_rfl) (by kernel_rfl) (by kernel_rfl) (fun _ _ _ h => h) (Or.inl ⟨by rfl, fun wx hSw => ?_⟩) (by assumption) ?_
          · obtain ⟨⟨s0, s1, s2, s3, s4, s5⟩, _⟩ := hSw
            go_simp
          simp only [Act.put, List.setIfInBounds_toArray, List.set_cons_zero, List.set_cons_succ]
          refine htake 9 (some 41) (.agg #[.slice an nn cn, .slice ar nr cr]) rfl rfl (by kernel_rfl) (by kernel_rfl) (by kernel_rfl) (fun _ _ _ h => h) (Or.inl ⟨by rfl, fun wx hSw => ?_⟩) (by assumption) ?_
          · obtain ⟨⟨s0, s1, s2, s3, s4, s5⟩, _⟩ := hSw
            go_simp
          simp only [Act.put, List.setIfInBounds_toArray, List.set_cons_zero, List.set_cons_succ]
          refine hone 10 _ rfl (by kernel_rfl) (fun K hK => ?_)
          go_simp
          go_at_call 18
          with_reducible refine (C5.out _ (H3b.bel hHeld2)).mono ?_
          rintro e wy3 ⟨rfl, bb3⟩
          refine hK.out _ _ (hHeld2.on bb3) (fun hHeld3 => ?_)
          clear hK K hHeld2 bb3
          (try simp only [Act.put, List.setIfInBounds_toArray, List.set_cons_zero, List.set_cons_succ])
          refine htake 11 (some 43) (.bool true) rfl rfl (by kernel_rfl) (by kernel_rfl) (by kernel_rfl) (fun _ _ _ h => h) (Or.inl ⟨by rfl, fun wx hSw => ?_⟩) (by assumption) ?_
          · obtain ⟨⟨s0, s1, s2, s3, s4, s5⟩, _⟩ := hSw
            go_simp
          simp only [Act.put, List.setIfInBounds_toArray, List.set_cons_zero, List.set_cons_succ]
          refine htake 12 (some 44) (.bool true) rfl rfl (by kernel_rfl) (by kernel_rfl) (by kernel_rfl) (fun _ _ _ h => h) (Or.inl ⟨by rfl, fun wx hSw => ?_⟩) (by assumption) ?_
          · obtain ⟨⟨s0, s1, s2, s3, s4, s5⟩, _⟩ := hSw
            go_simp
          simp only [Act.put, List.setIfInBounds_toArray, List.set_cons_zero, List.set_cons_succ]
          refine htake 13 (some 45) (.bool true) rfl rfl (by kernel_rfl) (by kernel_rfl) (by kernel_rfl) (fun _ _ _ h => h) (Or.inl ⟨by rfl, fun wx hSw => ?_⟩) (by assumption) ?_
          · obtain ⟨⟨s0, s1, s2, s3, s4, s5⟩, _⟩ := hSw
            go_simp
          simp only [Act.put, List.setIfInBounds_toArray, List.set_cons_zero, List.set_cons_succ]
          refine htake 14 (some 46) (.bool false) rfl rfl (by kernel_rfl) (by kernel_rfl) (by kernel_rfl) (fun _ _ _ h => h) (Or.inl ⟨by rfl, fun wx hSw => ?_⟩) (by assumption) ?_
          · obtain ⟨⟨s0, s1, s2, s3, s4, s5⟩, _⟩ := hSw
            go_simp
          simp only [Act.put, List.setIfInBounds_toArray, List.set_cons_zero, List.set_cons_succ]
          refine htake 15 (some 47) (.bool true) rfl rfl (by kernel_rfl) (by kernel_rfl) (by kernel_rfl) (fun _ _ _ h => h) (Or.inl ⟨by rfl, fun wx hSw => ?_⟩) (by assumption) ?_
          · obtain ⟨⟨s0, s1, s2, s3, s4, s5⟩, _⟩ := hSw
            go_simp
          simp only [Act.put, List.setIfInBounds_toArray, List.set_cons_zero, List.set_cons_succ]
          refine htake 16 (some 48) (.bool true) rfl rfl (by kernel_rfl) (by kernel_rfl) (by kernel_rfl) (fun _ _ _ h => h) (Or.inl ⟨by rfl, fun wx hSw => ?_⟩) (by assumption) ?_
          · obtain ⟨⟨s0, s1, s2, s3, s4, s5⟩, _⟩ := hSw
            go_simp
          simp only [Act.put, List.setIfInBounds_toArray, List.set_cons_zero, List.set_cons_succ]
          refine htake 17 (some 49) undef rfl rfl (by kernel_rfl) (by kernel_rfl) (by kernel_rfl) (fun _ _ _ h => h) (Or.inr ⟨by rfl, rfl⟩) (by assumption) ?_
          simp only [Act.put, List.setIfInBounds_toArray, List.set_cons_zero, List.set_cons_succ]
          refine htake 18 (some 50) undef rfl rfl (by kernel_rfl) (by kernel_rfl) (by kernel_rfl) (fun _ _ _ h => h) (Or.inr ⟨by rfl, rfl⟩) (by assumption) ?_
          simp only [Act.put, List.setIfInBounds_toArray, List.set_cons_zero, List.set_cons_succ]
          refine htake 19 (some 51) (.bool true) rfl rfl (by kernel_rfl) (by kernel_rfl) (by kernel_rfl) (fun _ _ _ h => h) (Or.inl ⟨by rfl, fun wx hSw => ?_⟩) (by assumption) ?_
          · obtain ⟨⟨s0, s1, s2, s3, s4, s5⟩, _⟩ := hSw
            go_simp
          simp only [Act.put, List.setIfInBounds_toArray, List.set_cons_zero, List.set_cons_succ]
          refine htake 20 (some 52) (.bool true) rfl rfl (by kernel_rfl) (by kernel_rfl) (by kernel_rfl) (fun _ _ _ h => h) (Or.inl ⟨by rfl, fun wx hSw => ?_⟩) (by assumption) ?_
          · obtain ⟨⟨s0, s1, s2, s3, s4, s5⟩, _⟩ := hSw
            go_simp
          simp only [Act.put, List.setIfInBounds_toArray, List.set_cons_zero, List.set_cons_succ]
          refine htake 21 (some 53) undef rfl rfl (by kernel_rfl) (by kernel_rfl) (by kernel_rfl) (fun _ _ _ h => h) (Or.inr ⟨by rfl, rfl⟩) (by assumption) ?_
          simp only [Act.put, List.setIfInBounds_toArray, List.set_cons_zero, List.set_cons_succ]
          refine htake 22 (some 54) (.bool true) rfl rfl (by kernel_rfl) (by kernel_rfl) (by kernel_rfl) (fun _ _ _ h => h) (Or.inl ⟨by rfl, fun wx hSw => ?_⟩) (by assumption) ?_
          · obtain ⟨⟨s0, s1, s2, s3, s4, s5⟩, _⟩ := hSw
            go_simp
          simp only [Act.put, List.setIfInBounds_toArray, List.set_cons_zero, List.set_cons_succ]
          refine htake 23 (some 55) (.bool true) rfl rfl (by kernel_rfl) (by kernel_rfl) (by kernel_rfl) (fun _ _ _ h => h) (Or.inl ⟨by rfl, fun wx hSw => ?_⟩) (by assumption) ?_
          · obtain ⟨⟨s0, s1, s2, s3, s4, s5⟩, _⟩ := hSw
            go_simp
          simp only [Act.put, List.setIfInBounds_toArray, List.set_cons_zero, List.set_cons_succ]
          refine htake 24 (some 56) (.bool true) rfl rfl (by kernel_rfl) (by kernel_rfl) (by kernel_rfl) (fun _ _ _ h => h) (Or.inl ⟨by rfl, fun wx hSw => ?_⟩) (by assumption) ?_
          · obtain ⟨⟨s0, s1, s2, s3, s4, s5⟩, _⟩ := hSw
            go_simp
          simp only [Act.put, List.setIfInBounds_toArray, List.set_cons_zero, List.set_cons_succ]
          refine hone 25 _ rfl (by kernel_rfl) (fun K hK => ?_)
          go_simp
          go_at_call 14
          with_reducible refine (C7.out _ (H3b.bel hHeld3)).mono ?_
          rintro e wy4 ⟨rfl, bb4⟩
          refine hK.out _ _ (hHeld3.on bb4) (fun hHeld4 => ?_)
          clear hK K hHeld3 bb4
          (try simp only [Act.put, List.setIfInBounds_toArray, List.set_cons_zero, List.set_cons_succ])
          refine htake 26 (some 58) (.bool true) rfl rfl (by kernel_rfl) (by kernel_rfl) (by kernel_rfl) (fun _ _ _ h => h) (Or.inl ⟨by rfl, fun wx hSw => ?_⟩) (by assumption) ?_
          · obtain ⟨⟨s0, s1, s2, s3, s4, s5⟩, _⟩ := hSw
            go_simp
          simp only [Act.put, List.setIfInBounds_toArray, List.set_cons_zero, List.set_cons_succ]
          refine hone 27 _ rfl (by kernel_rfl) (fun K hK => ?_)
          go_simp
          refine hK.out _ _ hHeld4 (fun _ => ?_)
          clear hK K
          refine wpAnyH_done (by kernel_rfl) ?_ _
          have HBE : Hid (Below w.heap.size w wy4) := Bt HB5.out (H3b.bel hHeld4)
          clear hHeld4
          go_wp2
          go_ret
          exact ⟨rfl, HBE.out⟩
        · cases bc
          · go_wp2_with fail
            refine wp_region_held_drew (S := H3b w5 g1 g2 g3 (.slice an nn cn) (.slice ar nr cr) (.slice an' nn' cn') (.slice ar' nr' cr') (.slice an2 nn2 cn2) (.slice ar2 nr2 cr2)) (by kernel_rfl) (HS7.out.on (Bd wc 1)) (fun hHeld => ?_)
            refine htake 0 (some 32) (.agg #[.slice an nn cn, .slice ar nr cr]) rfl rfl (by kernel_rfl) (by kernel_rfl) (by kernel_rfl) (fun _ _ _ h => h) (Or.inl ⟨by rfl, fun wx hSw => ?_⟩) (by assumption) ?_
            · obtain ⟨⟨s0, s1, s2, s3, s4, s5⟩, _⟩ := hSw
              go_simp
            simp only [Act.put, List.setIfInBounds_toArray, List.set_cons_zero, List.set_cons_succ]
            refine htake 1 (some 33) (.agg #[.slice an nn cn, .slice ar nr cr]) rfl rfl (by kernel_rfl) (by kernel_rfl) (by kernel_rfl) (fun _ _ _ h => h) (Or.inl ⟨by rfl, fun wx hSw => ?_⟩) (by assumption) ?_
            · obtain ⟨⟨s0, s1, s2, s3, s4, s5⟩, _⟩ := hSw
              go_simp
            simp only [Act.put, List.setIfInBounds_toArray, List.set_cons_zero, List.set_cons_succ]
            refine htake 3 (some 35) (.agg #[.slice an nn cn, .slice ar nr cr]) rfl rfl (by kernel_rfl) (by kernel_rfl) (by kernel_rfl) (fun _ _ _ h => h) (Or.inl ⟨by rfl, fun wx hSw => ?_⟩) (by assumption) ?_
            · obtain ⟨⟨s0, s1, s2, s3, s4, s5⟩, _⟩ := hSw
              go_simp
            simp only [Act.put, List.setIfInBounds_toArray, List.set_cons_zero, List.set_cons_succ]
            refine hone 2 _ rfl (by kernel_rfl) (fun K hK => ?_)
            go_simp
            go_at_call 18
            with_reducible refine (C4.out _ (H3b.bel hHeld)).mono ?_
            rintro e wy1 ⟨rfl, bb1⟩
            refine hK.out _ _ (hHeld.on bb1) (fun hHeld1 => ?_)
            clear hK K hHeld bb1
            (try simp only [Act.put, List.setIfInBounds_toArray, List.set_cons_zero, List.set_cons_succ])
            refine hone 4 _ rfl (by kernel_rfl) (fun K hK => ?_)
            go_simp
            go_at_call 20
            with_reducible refine (C6.out _ (H3b.bel hHeld1)).mono ?_
            rintro e wy2 ⟨rfl, bb2⟩
            refine hK.out _ _ (hHeld1.on bb2) (fun hHeld2 => ?_)
            clear hK K hHeld1 bb2
            (try simp only [Act.put, List.setIfInBounds_toArray, List.set_cons_zero, List.set_cons_succ])
            refine htake 5 (some 37) (.bool true) rfl rfl (by kernel_rfl) (by kernel_rfl) (by kernel_rfl) (fun _ _ _ h => h) (Or.inl ⟨by rfl, fun wx hSw => ?_⟩) (by assumption) ?_
            · obtain ⟨⟨s0, s1, s2, s3, s4, s5⟩, _⟩ := hSw
              go_simp
            simp only [Act.put, List.setIfInBounds_toArray, List.set_cons_zero, List.set_cons_succ]
            refine htake 6 (some 38) (.bool true) rfl rfl (by kernel_rfl) (by kernel_rfl) (by kernel_rfl) (fun _ _ _ h => h) (Or.inl ⟨by rfl, fun wx hSw => ?_⟩) (by assumption) ?_
            · obtain ⟨⟨s0, s1, s2, s3, s4, s5⟩, _⟩ := hSw
              go_simp
            simp only [Act.put, List.setIfInBounds_toArray, List.set_cons_zero, List.set_cons_succ]
            refine htake 7 (some 39) (.bool true) rfl rfl (by kernel_rfl) (by kernel_rfl) (by kernel_rfl) (fun _ _ _ h => h) (Or.inl ⟨by rfl, fun wx hSw => ?_⟩) (by assumption) ?_
            · obtain ⟨⟨s0, s1, s2, s3, s4, s5⟩, _⟩ := hSw
              go_simp
            simp only [Act.put, List.setIfInBounds_toArray, List.set_cons_zero, List.set_cons_succ]
            refine htake 8 (some 40) (.agg #[.slice an' nn' cn', .slice ar' nr' cr']) rfl rfl (by kernel_rfl) (by kernel_rfl) (by kernel_rfl) (fun _ _ _ h => h) (Or.inl ⟨by rfl, fun wx hSw => ?_⟩) (by assumption) ?_
            · obtain ⟨⟨s0, s1, s2, s3, s4, s5⟩, _⟩ := hSw
              go_simp
            simp only [Act.put, List.setIfInBounds_toArray, List.set_cons_zero, List.set_cons_succ]
            refine htake 9 (some 41) (.agg #[.slice an nn cn, .slice ar nr cr]) rfl rfl (by kernel_rfl) (by kernel_rfl) (by kernel_rfl) (fun _ _ _ h => h) (Or.inl ⟨by rfl, fun wx hSw => ?_⟩) (by assumption) ?_
            · obtain ⟨⟨s0, s1, s2, s3, s4, s5⟩, _⟩ := hSw
              go_simp
            simp only [Act.put, List.setIfInBounds_toArray, List.set_cons_zero, List.set_cons_succ]
            refine hone 10 _ rfl (by kernel_rfl) (fun K hK => ?_)
            go_simp
            go_at_call 18
            with_reducible refine (C5.out _ (H3b.bel hHeld2)).mono ?_
            rintro e wy3 ⟨rfl, bb3⟩
            refine hK.out _ _ (hHeld2.on bb3) (fun hHeld3 => ?_)
            clear hK K hHeld2 bb3
            (try simp only [Act.put, List.setIfInBounds_toArray, List.set_cons_zero, List.set_cons_succ])
            refine htake 11 (some 43) (.bool true) rfl rfl (by kernel_rfl) (by kernel_rfl) (by kernel_rfl) (fun _ _ _ h => h) (Or.inl ⟨by rfl, fun wx hSw => ?_⟩) (by assumption) ?_
            · obtain ⟨⟨s0, s1, s2, s3, s4, s5⟩, _⟩ := hSw
              go_simp
            simp only [Act.put, List.setIfInBounds_toArray, List.set_cons_zero, List.set_cons_succ]
            refine htake 12 (some 44) (.bool true) rfl rfl (by kernel_rfl) (by kernel_rfl) (by kernel_rfl) (fun _ _ _ h => h) (Or.inl ⟨by rfl, fun wx hSw => ?_⟩) (by assumption) ?_
            · obtain ⟨⟨s0, s1, s2, s3, s4, s5⟩, _⟩ := hSw
              go_simp
            simp only [Act.put, List.setIfInBounds_toArray, List.set_cons_zero, List.set_cons_succ]
            refine htake 13 (some 45) (.bool true) rfl rfl (by kernel_rfl) (by kernel_rfl) (by kernel_rfl) (fun _ _ _ h => h) (Or.inl ⟨by rfl, fun wx hSw => ?_⟩) (by assumption) ?_
            · obtain ⟨⟨s0, s1, s2, s3, s4, s5⟩, _⟩ := hSw
              go_simp
            simp only [Act.put, List.setIfInBounds_toArray, List.set_cons_zero, List.set_cons_succ]
            refine htake 14 (some 46) (.bool true) rfl rfl (by kernel_rfl) (by kernel_rfl) (by kernel_rfl) (fun _ _ _ h => h) (Or.inl ⟨by rfl, fun wx hSw => ?_⟩) (by assumption) ?_
            · obtain ⟨⟨s0, s1, s2, s3, s4, s5⟩, _⟩ := hSw
              go_simp
            simp only [Act.put, List.setIfInBounds_toArray, List.set_cons_zero, List.set_cons_succ]
            refine htake 15 (some 47) (.bool false) rfl rfl (by kernel_rfl) (by kernel_rfl) (by kernel_rfl) (fun _ _ _ h => h) (Or.inl ⟨by rfl, fun wx hSw => ?_⟩) (by assumption) ?_
            · obtain ⟨⟨s0, s1, s2, s3, s4, s5⟩, _⟩ := hSw
              go_simp
            simp only [Act.put, List.setIfInBounds_toArray, List.set_cons_zero, List.set_cons_succ]
            refine htake 16 (some 48) (.bool false) rfl rfl (by kernel_rfl) (by kernel_rfl) (by kernel_rfl) (fun _ _ _ h => h) (Or.inl ⟨by rfl, fun wx hSw => ?_⟩) (by assumption) ?_
            · obtain ⟨⟨s0, s1, s2, s3, s4, s5⟩, _⟩ := hSw
              go_simp
            simp only [Act.put, List.setIfInBounds_toArray, List.set_cons_zero, List.set_cons_succ]
            refine htake 17 (some 49) (.bool false) rfl rfl (by kernel_rfl) (by kernel_rfl) (by kernel_rfl) (fun _ _ _ h => h) (Or.inl ⟨by rfl, fun wx hSw => ?_⟩) (by assumption) ?_
            · obtain ⟨⟨s0, s1, s2, s3, s4, s5⟩, _⟩ := hSw
              go_simp
            simp only [Act.put, List.setIfInBounds_toArray, List.set_cons_zero, List.set_cons_succ]
            refine htake 18 (some 50) (.bool true) rfl rfl (by kernel_rfl) (by kernel_rfl) (by kernel_rfl) (fun _ _ _ h => h) (Or.inl ⟨by rfl, fun wx hSw => ?_⟩) (by assumption) ?_
            · obtain ⟨⟨s0, s1, s2, s3, s4, s5⟩, _⟩ := hSw
              go_simp
            simp only [Act.put, List.setIfInBounds_toArray, List.set_cons_zero, List.set_cons_succ]
            refine htake 19 (some 51) (.bool true) rfl rfl (by kernel_rfl) (by kernel_rfl) (by kernel_rfl) (fun _ _ _ h => h) (Or.inl ⟨by rfl, fun wx hSw => ?_⟩) (by assumption) ?_
            · obtain ⟨⟨s0, s1, s2, s3, s4, s5⟩, _⟩ := hSw
              go_simp
            simp only [Act.put, List.setIfInBounds_toArray, List.set_cons_zero, List.set_cons_succ]
            refine htake 20 (some 52) (.bool true) rfl rfl (by kernel_rfl) (by kernel_rfl) (by kernel_rfl) (fun _ _ _ h => h) (Or.inl ⟨by rfl, fun wx hSw => ?_⟩) (by assumption) ?_
            · obtain ⟨⟨s0, s1, s2, s3, s4, s5⟩, _⟩ := hSw
              go_simp
            simp only [Act.put, List.setIfInBounds_toArray, List.set_cons_zero, List.set_cons_succ]
            refine htake 21 (some 53) undef rfl rfl (by kernel_rfl) (by kernel_rfl) (by kernel_rfl) (fun _ _ _ h => h) (Or.inr ⟨by rfl, rfl⟩) (by assumption) ?_
            simp only [Act.put, List.setIfInBounds_toArray, List.set_cons_zero, List.set_cons_succ]
            refine htake 22 (some 54) (.bool true) rfl rfl (by kernel_rfl) (by kernel_rfl) (by kernel_rfl) (fun _ _ _ h => h) (Or.inl ⟨by rfl, fun wx hSw => ?_⟩) (by assumption) ?_
            · obtain ⟨⟨s0, s1, s2, s3, s4, s5⟩, _⟩ := hSw
              go_simp
            simp only [Act.put, List.setIfInBounds_toArray, List.set_cons_zero, List.set_cons_succ]
            refine htake 23 (some 55) (.bool true) rfl rfl (by kernel_rfl) (by kernel_rfl) (by kernel_rfl) (fun _ _ _ h => h) (Or.inl ⟨by rfl, fun wx hSw => ?_⟩) (by assumption) ?_
            · obtain ⟨⟨s0, s1, s2, s3, s4, s5⟩, _⟩ := hSw
              go_simp
            simp only [Act.put, List.setIfInBounds_toArray, List.set_cons_zero, List.set_cons_succ]
            refine htake 24 (some 56) (.bool true) rfl rfl (by kernel_rfl) (by kernel_rfl) (by kernel_rfl) (fun _ _ _ h => h) (Or.inl ⟨by rfl, fun wx hSw => ?_⟩) (by assumption) ?_
            · obtain ⟨⟨s0, s1, s2, s3, s4, s5⟩, _⟩ := hSw
              go_simp
            simp only [Act.put, List.setIfInBounds_toArray, List.set_cons_zero, List.set_cons_succ]
            refine hone 25 _ rfl (by kernel_rfl) (fun K hK => ?_)
            go_simp
            go_at_call 14
            with_reducible refine (C7.out _ (H3b.bel hHeld3)).mono ?_
            rintro e wy4 ⟨rfl, bb4⟩
            refine hK.out _ _ (hHeld3.on bb4) (fun hHeld4 => ?_)
            clear hK K hHeld3 bb4
            (try simp only [Act.put, List.setIfInBounds_toArray, List.set_cons_zero, List.set_cons_succ])
            refine htake 26 (some 58) (.bool true) rfl rfl (by kernel_rfl) (by kernel_rfl) (by kernel_rfl) (fun _ _ _ h => h) (Or.inl ⟨by rfl, fun wx hSw => ?_⟩) (by assumption) ?_
            · obtain ⟨⟨s0, s1, s2, s3, s4, s5⟩, _⟩ := hSw
              go_simp
            simp only [Act.put, List.setIfInBounds_toArray, List.set_cons_zero, List.set_cons_succ]
            refine hone 27 _ rfl (by kernel_rfl) (fun K hK => ?_)
            go_simp
            refine hK.out _ _ hHeld4 (fun _ => ?_)
            clear hK K
            refine wpAnyH_done (by kernel_rfl) ?_ _
            have HBE : Hid (Below w.heap.size w wy4) := Bt HB5.out (H3b.bel hHeld4)
            clear hHeld4
            go_wp2
            go_ret
            exact ⟨rfl, HBE.out⟩
          · obtain rfl : ac = true := tr.out rfl rfl
            go_wp2_with fail
            refine wp_region_held_drew (S := H3b w5 g1 g2 g3 (.slice an nn cn) (.slice ar nr cr) (.slice an' nn' cn') (.slice ar' nr' cr') (.slice an2 nn2 cn2) (.slice ar2 nr2 cr2)) (by kernel_rfl) (HS7.out.on (Bd wc 1)) (fun hHeld => ?_)
            refine htake 0 (some 32) (.agg #[.slice an nn cn, .slice ar nr cr]) rfl rfl (by kernel_rfl) (by kernel_rfl) (by kernel_rfl) (fun _ _ _ h => h) (Or.inl ⟨by rfl, fun wx hSw => ?_⟩) (by assumption) ?_
            · obtain ⟨⟨s0, s1, s2, s3, s4, s5⟩, _⟩ := hSw
              go_simp
            simp only [Act.put, List.setIfInBounds_toArray, List.set_cons_zero, List.set_cons_succ]
            refine htake 1 (some 33) (.agg #[.slice an nn cn, .slice ar nr cr]) rfl rfl (by kernel_rfl) (by kernel_rfl) (by kernel_rfl) (fun _ _ _ h => h) (Or.inl ⟨by rfl, fun wx hSw => ?_⟩) (by assumption) ?_
            · obtain ⟨⟨s0, s1, s2, s3, s4, s5⟩, _⟩ := hSw
              go_simp
            simp only [Act.put, List.setIfInBounds_toArray, List.set_cons_zero, List.set_cons_succ]
            refine htake 3 (some 35) (.agg #[.slice an nn cn, .slice ar nr cr]) rfl rfl (by kernel_rfl) (by kernel_rfl) (by kernel_rfl) (fun _ _ _ h => h) (Or.inl ⟨by rfl, fun wx hSw => ?_⟩) (by assumption) ?_
            · obtain ⟨⟨s0, s1, s2, s3, s4, s5⟩, _⟩ := hSw
              go_simp
            simp only [Act.put, List.setIfInBounds_toArray, List.set_cons_zero, List.set_cons_succ]
            refine hone 2 _ rfl (by kernel_rfl) (fun K hK => ?_)
            go_simp
            go_at_call 18
            with_reducible refine (C4.out _ (H3b.bel hHeld)).mono ?_
            rintro e wy1 ⟨rfl, bb1⟩
            refine hK.out _ _ (hHeld.on bb1) (fun hHeld1 => ?_)
            clear hK K hHeld bb1
            (try simp only [Act.put, List.setIfInBounds_toArray, List.set_cons_zero, List.set_cons_succ])
            refine hone 4 _ rfl (by kernel_rfl) (fun K hK => ?_)
            go_simp
            go_at_call 20
            with_reducible refine (C6.out _ (H3b.bel hHeld1)).mono ?_
            rintro e wy2 ⟨rfl, bb2⟩
            refine hK.out _ _ (hHeld1.on bb2) (fun hHeld2 => ?_)
            clear hK K hHeld1 bb2
            (try simp only [Act.put, List.setIfInBounds_toArray, List.set_cons_zero, List.set_cons_succ])
            refine htake 5 (some 37) (.bool true) rfl rfl (by kernel_rfl) (by kernel_rfl) (by kernel_rfl) (fun _ _ _ h => h) (Or.inl ⟨by rfl, fun wx hSw => ?_⟩) (by assumption) ?_
            · obtain ⟨⟨s0, s1, s2, s3, s4, s5⟩, _⟩ := hSw
              go_simp
            simp only [Act.put, List.setIfInBounds_toArray, List.set_cons_zero, List.set_cons_succ]
            refine htake 6 (some 38) (.bool true) rfl rfl (by kernel_rfl) (by kernel_rfl) (by kernel_rfl) (fun _ _ _ h => h) (Or.inl ⟨by rfl, fun wx hSw => ?_⟩) (by assumption) ?_
            · obtain ⟨⟨s0, s1, s2, s3, s4, s5⟩, _⟩ := hSw
              go_simp
            simp only [Act.put, List.setIfInBounds_toArray, List.set_cons_zero, List.set_cons_succ]
            refine htake 7 (some 39) (.bool true) rfl rfl (by kernel_rfl) (by kernel_rfl) (by kernel_rfl) (fun _ _ _ h => h) (Or.inl ⟨by rfl, fun wx hSw => ?_⟩) (by assumption) ?_
            · obtain ⟨⟨s0, s1, s2, s3, s4, s5⟩, _⟩ := hSw
              go_simp
            simp only [Act.put, List.setIfInBounds_toArray, List.set_cons_zero, List.set_cons_succ]
            refine htake 8 (some 40) (.agg #[.slice an' nn' cn', .slice ar' nr' cr']) rfl rfl (by kernel_rfl) (by kernel_rfl) (by kernel_rfl) (fun _ _ _ h => h) (Or.inl ⟨by rfl, fun wx hSw => ?_⟩) (by assumption) ?_
            · obtain ⟨⟨s0, s1, s2, s3, s4, s5⟩, _⟩ := hSw
              go_simp
            simp only [Act.put, List.setIfInBounds_toArray, List.set_cons_zero, List.set_cons_succ]
            refine htake 9 (some 41) (.agg #[.slice an nn cn, .slice ar nr cr]) rfl rfl (by kernel_rfl) (by kernel_rfl) (by kernel_rfl) (fun _ _ _ h => h) (Or.inl ⟨by rfl, fun wx hSw => ?_⟩) (by assumption) ?_
            · obtain ⟨⟨s0, s1, s2, s3, s4, s5⟩, _⟩ := hSw
              go_simp
            simp only [Act.put, List.setIfInBounds_toArray, List.set_cons_zero, List.set_cons_succ]
            refine hone 10 _ rfl (by kernel_rfl) (fun K hK => ?_)
            go_simp
            go_at_call 18
            with_reducible refine (C5.out _ (H3b.bel hHeld2)).mono ?_
            rintro e wy3 ⟨rfl, bb3⟩
            refine hK.out _ _ (hHeld2.on bb3) (fun hHeld3 => ?_)
            clear hK K hHeld2 bb3
            (try simp only [Act.put, List.setIfInBounds_toArray, List.set_cons_zero, List.set_cons_succ])
            refine htake 11 (some 43) (.bool true) rfl rfl (by kernel_rfl) (by kernel_rfl) (by kernel_rfl) (fun _ _ _ h => h) (Or.inl ⟨by rfl, fun wx hSw => ?_⟩) (by assumption) ?_
            · obtain ⟨⟨s0, s1, s2, s3, s4, s5⟩, _⟩ := hSw
              go_simp
            simp only [Act.put, List.setIfInBounds_toArray, List.set_cons_zero, List.set_cons_succ]
            refine htake 12 (some 44) (.bool true) rfl rfl (by kernel_rfl) (by kernel_rfl) (by kernel_rfl) (fun _ _ _ h => h) (Or.inl ⟨by rfl, fun wx hSw => ?_⟩) (by assumption) ?_
            · obtain ⟨⟨s0, s1, s2, s3, s4, s5⟩, _⟩ := hSw
              go_simp
            simp only [Act.put, List.setIfInBounds_toArray, List.set_cons_zero, List.set_cons_succ]
            refine htake 13 (some 45) (.bool true) rfl rfl (by kernel_rfl) (by kernel_rfl) (by kernel_rfl) (fun _ _ _ h => h) (Or.inl ⟨by rfl, fun wx hSw => ?_⟩) (by assumption) ?_
            · obtain ⟨⟨s0, s1, s2, s3, s4, s5⟩, _⟩ := hSw
              go_simp
            simp only [Act.put, List.setIfInBounds_toArray, List.set_cons_zero, List.set_cons_succ]
            refine htake 14 (some 46) (.bool true) rfl rfl (by kernel_rfl) (by kernel_rfl) (by kernel_rfl) (fun _ _ _ h => h) (Or.inl ⟨by rfl, fun wx hSw => ?_⟩) (by assumption) ?_
            · obtain ⟨⟨s0, s1, s2, s3, s4, s5⟩, _⟩ := hSw
              go_simp
            simp only [Act.put, List.setIfInBounds_toArray, List.set_cons_zero, List.set_cons_succ]
            refine htake 15 (some 47) (.bool false) rfl rfl (by kernel_rfl) (by kernel_rfl) (by kernel_rfl) (fun _ _ _ h => h) (Or.inl ⟨by rfl, fun wx hSw => ?_⟩) (by assumption) ?_
            · obtain ⟨⟨s0, s1, s2, s3, s4, s5⟩, _⟩ := hSw
              go_simp
            simp only [Act.put, List.setIfInBounds_toArray, List.set_cons_zero, List.set_cons_succ]
            refine htake 16 (some 48) (.bool false) rfl rfl (by kernel_rfl) (by kernel_rfl) (by kernel_rfl) (fun _ _ _ h => h) (Or.inl ⟨by rfl, fun wx hSw => ?_⟩) (by assumption) ?_
            · obtain ⟨⟨s0, s1, s2, s3, s4, s5⟩, _⟩ := hSw
              go_simp
            simp only [Act.put, List.setIfInBounds_toArray, List.set_cons_zero, List.set_cons_succ]
            refine htake 17 (some 49) (.bool true) rfl rfl (by kernel_rfl) (by kernel_rfl) (by kernel_rfl) (fun _ _ _ h => h) (Or.inl ⟨by rfl, fun wx hSw => ?_⟩) (by assumption) ?_
            · obtain ⟨⟨s0, s1, s2, s3, s4, s5⟩, _⟩ := hSw
              go_simp
            simp only [Act.put, List.setIfInBounds_toArray, List.set_cons_zero, List.set_cons_succ]
            refine htake 18 (some 50) (.bool false) rfl rfl (by kernel_rfl) (by kernel_rfl) (by kernel_rfl) (fun _ _ _ h => h) (Or.inl ⟨by rfl, fun wx hSw => ?_⟩) (by assumption) ?_
            · obtain ⟨⟨s0, s1, s2, s3, s4, s5⟩, _⟩ := hSw
              go_simp
            simp only [Act.put, List.setIfInBounds_toArray, List.set_cons_zero, List.set_cons_succ]
            refine htake 19 (some 51) (.bool false) rfl rfl (by kernel_rfl) (by kernel_rfl) (by kernel_rfl) (fun _ _ _ h => h) (Or.inl ⟨by rfl, fun wx hSw => ?_⟩) (by assumption) ?_
            · obtain ⟨⟨s0, s1, s2, s3, s4, s5⟩, _⟩ := hSw
              go_simp
            simp only [Act.put, List.setIfInBounds_toArray, List.set_cons_zero, List.set_cons_succ]
            refine htake 20 (some 52) (.bool false) rfl rfl (by kernel_rfl) (by kernel_rfl) (by kernel_rfl) (fun _ _ _ h => h) (Or.inl ⟨by rfl, fun wx hSw => ?_⟩) (by assumption) ?_
            · obtain ⟨⟨s0, s1, s2, s3, s4, s5⟩, _⟩ := hSw
              go_simp
            simp only [Act.put, List.setIfInBounds_toArray, List.set_cons_zero, List.set_cons_succ]
            refine htake 21 (some 53) (.bool true) rfl rfl (by kernel_rfl) (by kernel_rfl) (by kernel_rfl) (fun _ _ _ h => h) (Or.inl ⟨by rfl, fun wx hSw => ?_⟩) (by assumption) ?_
            · obtain ⟨⟨s0, s1, s2, s3, s4, s5⟩, _⟩ := hSw
              go_simp
            simp only [Act.put, List.setIfInBounds_toArray, List.set_cons_zero, List.set_cons_succ]
            refine htake 22 (some 54) (.bool true) rfl rfl (by kernel_rfl) (by kernel_rfl) (by kernel_rfl) (fun _ _ _ h => h) (Or.inl ⟨by rfl, fun wx hSw => ?_⟩) (by assumption) ?_
            · obtain ⟨⟨s0, s1, s2, s3, s4, s5⟩, _⟩ := hSw
              go_simp
            simp only [Act.put, List.setIfInBounds_toArray, List.set_cons_zero, List.set_cons_succ]
            refine htake 23 (some 55) (.bool true) rfl rfl (by kernel_rfl) (by kernel_rfl) (by kernel_rfl) (fun _ _ _ h => h) (Or.inl ⟨by rfl, fun wx hSw => ?_⟩) (by assumption) ?_
            · obtain ⟨⟨s0, s1, s2, s3, s4, s5⟩, _⟩ := hSw
              go_simp
            simp only [Act.put, List.setIfInBounds_toArray, List.set_cons_zero, List.set_cons_succ]
            refine htake 24 (some 56) (.bool true) rfl rfl (by kernel_rfl) (by kernel_rfl) (by kernel_rfl) (fun _ _ _ h => h) (Or.inl ⟨by rfl, fun wx hSw => ?_⟩) (by assumption) ?_
            · obtain ⟨⟨s0, s1, s2, s3, s4, s5⟩, _⟩ := hSw
              go_simp
            simp only [Act.put, List.setIfInBounds_toArray, List.set_cons_zero, List.set_cons_succ]
            refine hone 25 _ rfl (by kernel_rfl) (fun K hK => ?_)
            go_simp
            go_at_call 14
            with_reducible refine (C7.out _ (H3b.bel hHeld3)).mono ?_
            rintro e wy4 ⟨rfl, bb4⟩
            refine hK.out _ _ (hHeld3.on bb4) (fun hHeld4 => ?_)
            clear hK K hHeld3 bb4
            (try simp only [Act.put, List.setIfInBounds_toArray, List.set_cons_zero, List.set_cons_succ])
            refine htake 26 (some 58) (.bool true) rfl rfl (by kernel_rfl) (by kernel_rfl) (by kernel_rfl) (fun _ _ _ h => h) (Or.inl ⟨by rfl, fun wx hSw => ?_⟩) (by assumption) ?_
            · obtain ⟨⟨s0, s1, s2, s3, s4, s5⟩, _⟩ := hSw
              go_simp
            simp only [Act.put, List.setIfInBounds_toArray, List.set_cons_zero, List.set_cons_succ]
            refine hone 27 _ rfl (by kernel_rfl) (fun K hK => ?_)
            go_simp
            refine hK.out _ _ hHeld4 (fun _ => ?_)
            clear hK K
            refine wpAnyH_done (by kernel_rfl) ?_ _
            have HBE : Hid (Below w.heap.size w wy4) := Bt HB5.out (H3b.bel hHeld4)
            clear hHeld4
            go_wp2
            go_ret
            exact ⟨rfl, HBE.out⟩
end Go.Proofs.YtaenegcnobindacDoor
