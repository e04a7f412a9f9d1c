/-
  Walk: Same of the document's answer.
-/
import Derived.Test.YtfkdpomhojhapaaDoorC3
set_option linter.unusedVariables false
set_option linter.unusedSimpArgs false
set_option maxRecDepth 100000
namespace Go.Proofs.YtfkdpomhojhapaaDoor
open Go.RowKit

theorem GHeld.bel {w1 wx : World} {p q : Nat} {a0 a1 b0 b1 : Value} (h : GHeld w1 p q a0 a1 b0 b1 wx) : Below w1.heap.size w1 wx := h.2

set_option maxHeartbeats 8000000 in
theorem grsame_any (an ar : Option Addr) (nn cn nr cr : Nat) (ns : List Nd) (rs : List Int) (an' ar' : Option Addr) (nn' cn' nr' cr' : Nat) (ns' : List Nd) (rs' : List Int) (w : World) (G : GOk w an nn cn ar nr cr ns rs) (G' : GOk w an' nn' cn' ar' nr' cr' ns' rs') (hn : nn ≤ 100) (hr : nr ≤ 100) (hn' : nn' ≤ 100) (hr' : nr' ≤ 100) :
    Calls Tryd.prog 10 #[GVal an nn cn ar nr cr, GVal an' nn' cn' ar' nr' cr'] w fun e w' => e = .returned (.bool (sameGB ns rs ns' rs')) ∧ Below w.heap.size w w' := by
  have HG := hid G
  have HG' := hid G'
  have HN := hid (And.intro hn hr)
  have HN' := hid (And.intro hn' hr')
  unfold GVal
  clear G G' hn hr hn' hr'
  go_enter Tryd.func10, Tryd.ntmps10
  go_wp2_with fail
  have bA := Baa w (.cells #[.slice an nn cn, .slice ar nr cr] 25) (.cells #[.slice an' nn' cn', .slice ar' nr' cr'] 25)
  have x1 := (GBox.new 25 w an ar nn cn nr cr).on (Ba (w.alloc (.cells #[.slice an nn cn, .slice ar nr cr] 25)) (.cells #[.slice an' nn' cn', .slice ar' nr' cr'] 25))
  have x2 := GBox.new 25 (w.alloc (.cells #[.slice an nn cn, .slice ar nr cr] 25)) an' ar' nn' cn' nr' cr'
  rw [size_alloc] at x2
  generalize (w.alloc (.cells #[.slice an nn cn, .slice ar nr cr] 25)).alloc (.cells #[.slice an' nn' cn', .slice ar' nr' cr'] 25) = W1 at *
  obtain ⟨g1, hg1⟩ : ∃ g, g = w.heap.size := ⟨_, rfl⟩
  obtain ⟨g2, hg2⟩ : ∃ g, g = w.heap.size + 1 := ⟨_, rfl⟩
  rw [← hg2] at x2
  rw [← hg1] at x1
  rw [← hg2, ← hg1]
  clear hg1 hg2
  have HB := hid bA
  obtain ⟨z1, z2⟩ := x1.c
  obtain ⟨v1, v2⟩ := x2.c
  have HS0 : Hid (GHeld W1 g1 g2 (.slice an nn cn) (.slice ar nr cr) (.slice an' nn' cn') (.slice ar' nr' cr') W1) := ⟨⟨z1, z2, v1, v2⟩, Below.refl _ _⟩
  have G1 := hid (HG.out.below bA)
  have G2 := hid (HG'.out.below bA)
  clear z1 z2 v1 v2 x1 x2 bA
  obtain ⟨ga, hga⟩ : ∃ gd, gd = goodG ns rs := ⟨_, rfl⟩
  obtain ⟨gb, hgb⟩ : ∃ gd, gd = goodG ns' rs' := ⟨_, rfl⟩
  have HGA := hid hga
  have HGB := hid hgb
  have C1 : Hid (∀ wx, Below W1.heap.size W1 wx → Calls Tryd.prog 21 #[.agg #[.slice an nn cn, .slice ar nr cr]] wx fun e w' => e = .returned (.bool ga) ∧ Below wx.heap.size wx w') := fun wx b => by
    have := rgood_g an ar nn cn nr cr ns rs wx (G1.out.is.below b) G1.out.small G1.out.nn_le
    rw [← hga] at this; exact this
  have C2 : Hid (∀ wx, Below W1.heap.size W1 wx → Calls Tryd.prog 21 #[.agg #[.slice an' nn' cn', .slice ar' nr' cr']] wx fun e w' => e = .returned (.bool gb) ∧ Below wx.heap.size wx w') := fun wx b => by
    have := rgood_g an' ar' nn' cn' nr' cr' ns' rs' wx (G2.out.is.below b) G2.out.small G2.out.nn_le
    rw [← hgb] at this; exact this
  have C3 : Hid (∀ wx, Below W1.heap.size W1 wx → Calls Tryd.prog 22 #[.agg #[.slice an nn cn, .slice ar nr cr]] wx fun e w' => ∃ a1 n1 c1 a2 n2 c2, e = .returned (.agg #[.slice a1 n1 c1, .slice a2 n2 c2]) ∧ GIs w' a1 n1 c1 a2 n2 c2 (canonN ns rs).1 (canonN ns rs).2 ∧ Below wx.heap.size wx w') := fun wx b => rcanon_any an ar nn cn nr cr ns rs wx (G1.out.is.below b) G1.out.small G1.out.kids HN.out.1 HN.out.2
  have C4 : Hid (∀ wx, Below W1.heap.size W1 wx → Calls Tryd.prog 22 #[.agg #[.slice an' nn' cn', .slice ar' nr' cr']] wx fun e w' => ∃ a1 n1 c1 a2 n2 c2, e = .returned (.agg #[.slice a1 n1 c1, .slice a2 n2 c2]) ∧ GIs w' a1 n1 c1 a2 n2 c2 (canonN ns' rs').1 (canonN ns' rs').2 ∧ Below wx.heap.size wx w') := fun wx b => rcanon_any an' ar' nn' cn' nr' cr' ns' rs' wx (G2.out.is.below b) G2.out.small G2.out.kids HN'.out.1 HN'.out.2
  have C5 : Hid (∀ wx b1 k1 e1 b2 k2 e2 b3 k3 e3 b4 k4 e4, GIs wx b1 k1 e1 b2 k2 e2 (canonN ns rs).1 (canonN ns rs).2 → GIs wx b3 k3 e3 b4 k4 e4 (canonN ns' rs').1 (canonN ns' rs').2 → Calls Tryd.prog 6 #[.agg #[.slice b1 k1 e1, .slice b2 k2 e2], .agg #[.slice b3 k3 e3, .slice b4 k4 e4]] wx fun e w' => e = .returned (.bool (decide ((canonN ns rs).1 = (canonN ns' rs').1 ∧ (canonN ns rs).2 = (canonN ns' rs').2))) ∧ Below wx.heap.size wx w') := fun wx b1 k1 e1 b2 k2 e2 b3 k3 e3 b4 k4 e4 h h' => requal_any _ _ _ _ _ _ _ _ _ _ _ _ _ _ _ _ wx h h'
  clear hga hgb
  refine wp_region_held_drew (S := GHeld W1 g1 g2 (.slice an nn cn) (.slice ar nr cr) (.slice an' nn' cn') (.slice ar' nr' cr')) (by kernel_rfl) (HS0.out.on (Bd W1 1)) (fun hHeld => ?_)
  refine htake 0 (some 5) (.agg #[.slice an nn cn, .slice ar nr cr]) rfl rfl (by kernel_rfl) (by kernel_rfl) (by kernel_rfl) (fun _ _ _ h => h) (Or.inl ⟨by rfl, fun wx hSw => ?_⟩) (by assumption) ?_
  · obtain ⟨⟨s0, s1, s2, s3⟩, _⟩ := hSw
    go_simp
  simp only [Act.put, List.setIfInBounds_toArray, List.set_cons_zero, List.set_cons_succ]
  refine hone 1 _ rfl (by kernel_rfl) (fun K hK => ?_)
  go_simp
  go_at_call 21
  with_reducible refine (C1.out _ (GHeld.bel hHeld)).mono ?_
  rintro e wy1 ⟨rfl, bb1⟩
  refine hK.out _ _ (hHeld.on bb1) (fun hHeld1 => ?_)
  clear hK K hHeld
  (try simp only [Act.put, List.setIfInBounds_toArray, List.set_cons_zero, List.set_cons_succ])
  cases ga
  · have HE : Hid (sameGB ns rs ns' rs' = false) := by unfold Hid sameGB; rw [← HGA.out]; rfl
    refine htake 2 (some 7) (.bool false) rfl rfl (by kernel_rfl) (by kernel_rfl) (by kernel_rfl) (fun _ _ _ h => h) (Or.inl ⟨by rfl, fun wx hSw => ?_⟩) (by assumption) ?_
    · obtain ⟨⟨s0, s1, s2, s3⟩, _⟩ := hSw
      go_simp
    simp only [Act.put, List.setIfInBounds_toArray, List.set_cons_zero, List.set_cons_succ]
    refine htake 3 (some 8) undef rfl rfl (by kernel_rfl) (by kernel_rfl) (by kernel_rfl) (fun _ _ _ h => h) (Or.inr ⟨by rfl, rfl⟩) (by assumption) ?_
    simp only [Act.put, List.setIfInBounds_toArray, List.set_cons_zero, List.set_cons_succ]
    refine htake 4 (some 9) undef rfl rfl (by kernel_rfl) (by kernel_rfl) (by kernel_rfl) (fun _ _ _ h => h) (Or.inr ⟨by rfl, rfl⟩) (by assumption) ?_
    simp only [Act.put, List.setIfInBounds_toArray, List.set_cons_zero, List.set_cons_succ]
    refine htake 5 (some 10) (.bool false) rfl rfl (by kernel_rfl) (by kernel_rfl) (by kernel_rfl) (fun _ _ _ h => h) (Or.inl ⟨by rfl, fun wx hSw => ?_⟩) (by assumption) ?_
    · obtain ⟨⟨s0, s1, s2, s3⟩, _⟩ := hSw
      go_simp
    simp only [Act.put, List.setIfInBounds_toArray, List.set_cons_zero, List.set_cons_succ]
    refine htake 6 (some 11) (.bool false) rfl rfl (by kernel_rfl) (by kernel_rfl) (by kernel_rfl) (fun _ _ _ h => h) (Or.inl ⟨by rfl, fun wx hSw => ?_⟩) (by assumption) ?_
    · obtain ⟨⟨s0, s1, s2, s3⟩, _⟩ := hSw
      go_simp
    simp only [Act.put, List.setIfInBounds_toArray, List.set_cons_zero, List.set_cons_succ]
    refine htake 7 (some 12) undef rfl rfl (by kernel_rfl) (by kernel_rfl) (by kernel_rfl) (fun _ _ _ h => h) (Or.inr ⟨by rfl, rfl⟩) (by assumption) ?_
    simp only [Act.put, List.setIfInBounds_toArray, List.set_cons_zero, List.set_cons_succ]
    refine htake 8 (some 13) undef rfl rfl (by kernel_rfl) (by kernel_rfl) (by kernel_rfl) (fun _ _ _ h => h) (Or.inr ⟨by rfl, rfl⟩) (by assumption) ?_
    simp only [Act.put, List.setIfInBounds_toArray, List.set_cons_zero, List.set_cons_succ]
    refine htake 9 (some 14) undef rfl rfl (by kernel_rfl) (by kernel_rfl) (by kernel_rfl) (fun _ _ _ h => h) (Or.inr ⟨by rfl, rfl⟩) (by assumption) ?_
    simp only [Act.put, List.setIfInBounds_toArray, List.set_cons_zero, List.set_cons_succ]
    refine htake 10 (some 15) undef rfl rfl (by kernel_rfl) (by kernel_rfl) (by kernel_rfl) (fun _ _ _ h => h) (Or.inr ⟨by rfl, rfl⟩) (by assumption) ?_
    simp only [Act.put, List.setIfInBounds_toArray, List.set_cons_zero, List.set_cons_succ]
    refine htake 11 (some 16) undef rfl rfl (by kernel_rfl) (by kernel_rfl) (by kernel_rfl) (fun _ _ _ h => h) (Or.inr ⟨by rfl, rfl⟩) (by assumption) ?_
    simp only [Act.put, List.setIfInBounds_toArray, List.set_cons_zero, List.set_cons_succ]
    refine htake 12 (some 17) (.bool false) rfl rfl (by kernel_rfl) (by kernel_rfl) (by kernel_rfl) (fun _ _ _ h => h) (Or.inl ⟨by rfl, fun wx hSw => ?_⟩) (by assumption) ?_
    · obtain ⟨⟨s0, s1, s2, s3⟩, _⟩ := hSw
      go_simp
    simp only [Act.put, List.setIfInBounds_toArray, List.set_cons_zero, List.set_cons_succ]
    refine hone 13 _ rfl (by kernel_rfl) (fun K hK => ?_)
    go_simp
    refine hK.out _ _ hHeld1 (fun _ => ?_)
    clear hK K
    refine wpAnyH_done (by kernel_rfl) ?_ _
    have HBE : Hid (Below w.heap.size w wy1) := Bt HB.out (GHeld.bel hHeld1)
    clear hHeld1
    go_wp2
    go_ret
    exact ⟨(by rw [HE.out]; rfl), HBE.out⟩
  · skip
    refine htake 2 (some 7) (.bool true) rfl rfl (by kernel_rfl) (by kernel_rfl) (by kernel_rfl) (fun _ _ _ h => h) (Or.inl ⟨by rfl, fun wx hSw => ?_⟩) (by assumption) ?_
    · obtain ⟨⟨s0, s1, s2, s3⟩, _⟩ := hSw
      go_simp
    simp only [Act.put, List.setIfInBounds_toArray, List.set_cons_zero, List.set_cons_succ]
    refine htake 3 (some 8) (.agg #[.slice an' nn' cn', .slice ar' nr' cr']) rfl rfl (by kernel_rfl) (by kernel_rfl) (by kernel_rfl) (fun _ _ _ h => h) (Or.inl ⟨by rfl, fun wx hSw => ?_⟩) (by assumption) ?_
    · obtain ⟨⟨s0, s1, s2, s3⟩, _⟩ := hSw
      go_simp
    simp only [Act.put, List.setIfInBounds_toArray, List.set_cons_zero, List.set_cons_succ]
    refine hone 4 _ rfl (by kernel_rfl) (fun K hK => ?_)
    go_simp
    go_at_call 21
    with_reducible refine (C2.out _ (GHeld.bel hHeld1)).mono ?_
    rintro e wy2 ⟨rfl, bb2⟩
    refine hK.out _ _ (hHeld1.on bb2) (fun hHeld2 => ?_)
    clear hK K hHeld1
    (try simp only [Act.put, List.setIfInBounds_toArray, List.set_cons_zero, List.set_cons_succ])
    cases gb
    · have HE : Hid (sameGB ns rs ns' rs' = false) := by unfold Hid sameGB; rw [← HGA.out, ← HGB.out]; rfl
      refine htake 5 (some 10) (.bool false) rfl rfl (by kernel_rfl) (by kernel_rfl) (by kernel_rfl) (fun _ _ _ h => h) (Or.inl ⟨by rfl, fun wx hSw => ?_⟩) (by assumption) ?_
      · obtain ⟨⟨s0, s1, s2, s3⟩, _⟩ := hSw
        go_simp
      simp only [Act.put, List.setIfInBounds_toArray, List.set_cons_zero, List.set_cons_succ]
      refine htake 6 (some 11) (.bool false) rfl rfl (by kernel_rfl) (by kernel_rfl) (by kernel_rfl) (fun _ _ _ h => h) (Or.inl ⟨by rfl, fun wx hSw => ?_⟩) (by assumption) ?_
      · obtain ⟨⟨s0, s1, s2, s3⟩, _⟩ := hSw
        go_simp
      simp only [Act.put, List.setIfInBounds_toArray, List.set_cons_zero, List.set_cons_succ]
      refine htake 7 (some 12) undef rfl rfl (by kernel_rfl) (by kernel_rfl) (by kernel_rfl) (fun _ _ _ h => h) (Or.inr ⟨by rfl, rfl⟩) (by assumption) ?_
      simp only [Act.put, List.setIfInBounds_toArray, List.set_cons_zero, List.set_cons_succ]
      refine htake 8 (some 13) undef rfl rfl (by kernel_rfl) (by kernel_rfl) (by kernel_rfl) (fun _ _ _ h => h) (Or.inr ⟨by rfl, rfl⟩) (by assumption) ?_
      simp only [Act.put, List.setIfInBounds_toArray, List.set_cons_zero, List.set_cons_succ]
      refine htake 9 (some 14) undef rfl rfl (by kernel_rfl) (by kernel_rfl) (by kernel_rfl) (fun _ _ _ h => h) (Or.inr ⟨by rfl, rfl⟩) (by assumption) ?_
      simp only [Act.put, List.setIfInBounds_toArray, List.set_cons_zero, List.set_cons_succ]
      refine htake 10 (some 15) undef rfl rfl (by kernel_rfl) (by kernel_rfl) (by kernel_rfl) (fun _ _ _ h => h) (Or.inr ⟨by rfl, rfl⟩) (by assumption) ?_
      simp only [Act.put, List.setIfInBounds_toArray, List.set_cons_zero, List.set_cons_succ]
      refine htake 11 (some 16) undef rfl rfl (by kernel_rfl) (by kernel_rfl) (by kernel_rfl) (fun _ _ _ h => h) (Or.inr ⟨by rfl, rfl⟩) (by assumption) ?_
      simp only [Act.put, List.setIfInBounds_toArray, List.set_cons_zero, List.set_cons_succ]
      refine htake 12 (some 17) (.bool false) rfl rfl (by kernel_rfl) (by kernel_rfl) (by kernel_rfl) (fun _ _ _ h => h) (Or.inl ⟨by rfl, fun wx hSw => ?_⟩) (by assumption) ?_
      · obtain ⟨⟨s0, s1, s2, s3⟩, _⟩ := hSw
        go_simp
      simp only [Act.put, List.setIfInBounds_toArray, List.set_cons_zero, List.set_cons_succ]
      refine hone 13 _ rfl (by kernel_rfl) (fun K hK => ?_)
      go_simp
      refine hK.out _ _ hHeld2 (fun _ => ?_)
      clear hK K
      refine wpAnyH_done (by kernel_rfl) ?_ _
      have HBE : Hid (Below w.heap.size w wy2) := Bt HB.out (GHeld.bel hHeld2)
      clear hHeld2
      go_wp2
      go_ret
      exact ⟨(by rw [HE.out]; rfl), HBE.out⟩
    · have HE : Hid (sameGB ns rs ns' rs' = decide ((canonN ns rs).1 = (canonN ns' rs').1 ∧ (canonN ns rs).2 = (canonN ns' rs').2)) := by unfold Hid sameGB; rw [← HGA.out, ← HGB.out]; simp
      refine htake 5 (some 10) (.bool true) rfl rfl (by kernel_rfl) (by kernel_rfl) (by kernel_rfl) (fun _ _ _ h => h) (Or.inl ⟨by rfl, fun wx hSw => ?_⟩) (by assumption) ?_
      · obtain ⟨⟨s0, s1, s2, s3⟩, _⟩ := hSw
        go_simp
      simp only [Act.put, List.setIfInBounds_toArray, List.set_cons_zero, List.set_cons_succ]
      refine htake 6 (some 11) (.bool true) rfl rfl (by kernel_rfl) (by kernel_rfl) (by kernel_rfl) (fun _ _ _ h => h) (Or.inl ⟨by rfl, fun wx hSw => ?_⟩) (by assumption) ?_
      · obtain ⟨⟨s0, s1, s2, s3⟩, _⟩ := hSw
        go_simp
      simp only [Act.put, List.setIfInBounds_toArray, List.set_cons_zero, List.set_cons_succ]
      refine htake 7 (some 12) (.agg #[.slice an nn cn, .slice ar nr cr]) rfl rfl (by kernel_rfl) (by kernel_rfl) (by kernel_rfl) (fun _ _ _ h => h) (Or.inl ⟨by rfl, fun wx hSw => ?_⟩) (by assumption) ?_
      · obtain ⟨⟨s0, s1, s2, s3⟩, _⟩ := hSw
        go_simp
      simp only [Act.put, List.setIfInBounds_toArray, List.set_cons_zero, List.set_cons_succ]
      refine htake 9 (some 14) (.agg #[.slice an' nn' cn', .slice ar' nr' cr']) rfl rfl (by kernel_rfl) (by kernel_rfl) (by kernel_rfl) (fun _ _ _ h => h) (Or.inl ⟨by rfl, fun wx hSw => ?_⟩) (by assumption) ?_
      · obtain ⟨⟨s0, s1, s2, s3⟩, _⟩ := hSw
        go_simp
      simp only [Act.put, List.setIfInBounds_toArray, List.set_cons_zero, List.set_cons_succ]
      refine hone 8 _ rfl (by kernel_rfl) (fun K hK => ?_)
      go_simp
      go_at_call 22
      with_reducible refine (C3.out _ (GHeld.bel hHeld2)).mono ?_
      rintro e wy3 ⟨a1, n1, c1, a2, n2, c2, rfl, i3, bb3⟩
      refine hK.out _ _ (hHeld2.on bb3) (fun hHeld3 => ?_)
      clear hK K hHeld2
      (try simp only [Act.put, List.setIfInBounds_toArray, List.set_cons_zero, List.set_cons_succ])
      refine hone 10 _ rfl (by kernel_rfl) (fun K hK => ?_)
      go_simp
      go_at_call 22
      with_reducible refine (C4.out _ (GHeld.bel hHeld3)).mono ?_
      rintro e wy4 ⟨a3, n3, c3, a4, n4, c4, rfl, i4, bb4⟩
      refine hK.out _ _ (hHeld3.on bb4) (fun hHeld4 => ?_)
      clear hK K hHeld3
      (try simp only [Act.put, List.setIfInBounds_toArray, List.set_cons_zero, List.set_cons_succ])
      have C6 := hid (C5.out _ _ _ _ _ _ _ _ _ _ _ _ _ (i3.below bb4) i4)
      generalize decide ((canonN ns rs).1 = (canonN ns' rs').1 ∧ (canonN ns rs).2 = (canonN ns' rs').2) = eq at *
      clear C5 i3 i4
      refine hone 11 _ rfl (by kernel_rfl) (fun K hK => ?_)
      go_simp
      go_at_call 6
      with_reducible refine (C6.out).mono ?_
      rintro e wy5 ⟨rfl, bb5⟩
      refine hK.out _ _ (hHeld4.on bb5) (fun hHeld5 => ?_)
      clear hK K hHeld4
      (try simp only [Act.put, List.setIfInBounds_toArray, List.set_cons_zero, List.set_cons_succ])
      refine htake 12 (some 17) (.bool eq) rfl rfl (by kernel_rfl) (by kernel_rfl) (by kernel_rfl) (fun _ _ _ h => h) (Or.inl ⟨by rfl, fun wx hSw => ?_⟩) (by assumption) ?_
      · obtain ⟨⟨s0, s1, s2, s3⟩, _⟩ := hSw
        go_simp
      simp only [Act.put, List.setIfInBounds_toArray, List.set_cons_zero, List.set_cons_succ]
      refine hone 13 _ rfl (by kernel_rfl) (fun K hK => ?_)
      go_simp
      refine hK.out _ _ hHeld5 (fun _ => ?_)
      clear hK K
      refine wpAnyH_done (by kernel_rfl) ?_ _
      have HBE : Hid (Below w.heap.size w wy5) := Bt HB.out (GHeld.bel hHeld5)
      clear hHeld5
      go_wp2
      go_ret
      exact ⟨(by rw [HE.out]; rfl), HBE.out⟩

end Go.Proofs.YtfkdpomhojhapaaDoor
