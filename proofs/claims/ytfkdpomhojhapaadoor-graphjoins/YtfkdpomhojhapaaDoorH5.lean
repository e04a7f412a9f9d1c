/-
  Walk: graph.Same.
-/
import Derived.Test.YtfkdpomhojhapaaDoorH2
import Derived.Test.YtfkdpomhojhapaaDoorW36
set_option linter.unusedVariables false
set_option linter.unusedSimpArgs false
set_option maxRecDepth 100000
namespace Go.Proofs.YtfkdpomhojhapaaDoor
open Go.RowKit

theorem box_noint {w : World} {t : TypeId} {p : Nat} {a b : Option Addr} {c d e f : Nat} (hB : GBox t w p a c d b e f) {o : Nat} {z : Int} (h : w.cell? ⟨p, o, none⟩ = some (.int .i64 z)) : False := by
  rw [blk_cell hB] at h
  match o, h with
  | 0, h => simp at h
  | 1, h => simp at h
  | o + 2, h => simp at h
/-- The value is a graph with these nodes and roots. -/
def IsG (w : World) (v : Value) (X : List Nd × List Int) : Prop := ∃ an nn cn ar nr cr, v = GVal an nn cn ar nr cr ∧ GIs w an nn cn ar nr cr X.1 X.2
theorem IsG.below {w w' : World} {v : Value} {X : List Nd × List Int} (h : IsG w v X) (hb : Below w.heap.size w w') : IsG w' v X := by
  obtain ⟨an, nn, cn, ar, nr, cr, h1, h2⟩ := h
  exact ⟨an, nn, cn, ar, nr, cr, h1, h2.below hb⟩
theorem IRow.notBox {w w' : World} {ao : Option Addr} {n cap : Nat} {l : List Int} (h : IRow w ao n cap l) {t : TypeId} {p : Nat} {a b : Option Addr} {c d e f : Nat} (hB : GBox t w p a c d b e f) (hs : w.heap.size ≤ w'.heap.size) (hb : ∀ q, q ≠ p → w'.heap[q]? = w.heap[q]?) : IRow w' ao n cap l := by
  refine ⟨h.len, h.fits, h.most, h.nil_, h.bd, ?_⟩
  rcases h.rd with e | ⟨bb, o, e, hl, hc⟩
  · exact .inl e
  · by_cases h0 : l = []
    · exact .inl h0
    · have hq : bb ≠ p := by
        rintro rfl
        have := hc 0 (List.length_pos_iff.2 h0)
        exact box_noint hB this
      exact .inr ⟨bb, o, e, Nat.lt_of_lt_of_le hl hs, fun i hi => (World.cell?_of_block (w := w) (a := ⟨bb, o + i, none⟩) (hb bb hq)).trans (hc i hi)⟩
theorem NRow.notBox {w w' : World} {ao : Option Addr} {n cap : Nat} {l : List Nd} (h : NRow w ao n cap l) {t : TypeId} {p : Nat} {a b : Option Addr} {c d e f : Nat} (hB : GBox t w p a c d b e f) (hs : w.heap.size ≤ w'.heap.size) (hb : ∀ q, q ≠ p → w'.heap[q]? = w.heap[q]?) : NRow w' ao n cap l := by
  refine ⟨h.len, h.fits, h.most, h.nil_, h.ok, ?_⟩
  rcases h.rd with e | ⟨bb, o, e, hl, hc⟩
  · exact .inl e
  · by_cases h0 : l = []
    · exact .inl h0
    · have hq : bb ≠ p := by
        rintro rfl
        have := (hc 0 (List.length_pos_iff.2 h0)).1
        exact box_noint hB this
      have hcell : ∀ k v, w.cell? ⟨bb, k, none⟩ = Option.some v → w'.cell? ⟨bb, k, none⟩ = Option.some v := fun k v hv => (World.cell?_of_block (w := w) (a := ⟨bb, k, none⟩) (hb bb hq)).trans hv
      refine .inr ⟨bb, o, e, Nat.lt_of_lt_of_le hl hs, fun i hi => ?_⟩
      obtain ⟨k1, k2, k3, ak, nk, ck, k4, k5⟩ := hc i hi
      exact ⟨hcell _ _ k1, hcell _ _ k2, hcell _ _ k3, ak, nk, ck, hcell _ _ k4, k5.notBox hB hs hb⟩
theorem GIs.notBox {w w' : World} {an ar : Option Addr} {nn cn nr cr : Nat} {ns : List Nd} {rs : List Int} (h : GIs w an nn cn ar nr cr ns rs) {t : TypeId} {p : Nat} {a b : Option Addr} {c d e f : Nat} (hB : GBox t w p a c d b e f) (hs : w.heap.size ≤ w'.heap.size) (hb : ∀ q, q ≠ p → w'.heap[q]? = w.heap[q]?) : GIs w' an nn cn ar nr cr ns rs :=
  ⟨h.nodes.notBox hB hs hb, h.roots.notBox hB hs hb⟩
theorem GIs.set2 {w : World} {an ar : Option Addr} {nn cn nr cr : Nat} {ns : List Nd} {rs : List Int} (h : GIs w an nn cn ar nr cr ns rs) {t : TypeId} {p : Nat} {a b : Option Addr} {c d e f : Nat} (hB : GBox t w p a c d b e f) (v1 v2 : Value) : GIs ((w.setCell ⟨p, 0, none⟩ v1).setCell ⟨p, 1, none⟩ v2) an nn cn ar nr cr ns rs :=
  h.notBox hB (by simp [World.setCell]) (fun q hq => store2_far hq)

structure SSt (w1 : World) (X Y : List Nd × List Int) (k : Nat) (al be : Bool) (t16 t18 t5 t6 : Value) (wx : World) : Prop where
  bel : Below w1.heap.size w1 wx
  i1 : 1 ≤ k → IsG wx t16 X
  i2 : 2 ≤ k → IsG wx t18 Y
  b5 : al = true → ∃ p, t5 = .pointer (some ⟨p, 0, none⟩) ∧ w1.heap.size ≤ p ∧ GBox 25 wx p none 0 0 none 0 0
  b6 : be = true → ∃ p, t6 = .pointer (some ⟨p, 0, none⟩) ∧ w1.heap.size ≤ p ∧ GBox 25 wx p none 0 0 none 0 0
  ne : al = true → be = true → t5 ≠ t6
section
variable {w1 wx wy : World} {X Y : List Nd × List Int} {k : Nat} {al be : Bool} {t16 t18 t5 t6 : Value}
theorem SSt.on (h : SSt w1 X Y k al be t16 t18 t5 t6 wx) (hb : Below wx.heap.size wx wy) : SSt w1 X Y k al be t16 t18 t5 t6 wy :=
  ⟨Bt h.bel hb, fun e => (h.i1 e).below hb, fun e => (h.i2 e).below hb, fun e => by obtain ⟨p, h1, h2, h3⟩ := h.b5 e; exact ⟨p, h1, h2, h3.on hb⟩, fun e => by obtain ⟨p, h1, h2, h3⟩ := h.b6 e; exact ⟨p, h1, h2, h3.on hb⟩, h.ne⟩
theorem SSt.s1 (h : SSt w1 X Y 0 al be t16 t18 t5 t6 wx) (hb : Below wx.heap.size wx wy) {v : Value} (hv : IsG wy v X) : SSt w1 X Y 1 al be v t18 t5 t6 wy :=
  ⟨Bt h.bel hb, fun _ => hv, fun e => by omega, (h.on hb).b5, (h.on hb).b6, h.ne⟩
theorem SSt.s2 (h : SSt w1 X Y 1 al be t16 t18 t5 t6 wx) (hb : Below wx.heap.size wx wy) {v : Value} (hv : IsG wy v Y) : SSt w1 X Y 2 al be t16 v t5 t6 wy :=
  ⟨Bt h.bel hb, fun _ => (h.on hb).i1 (by omega), fun _ => hv, (h.on hb).b5, (h.on hb).b6, h.ne⟩
theorem gptr_ne {p q : Nat} (h : p ≠ q) : (Value.pointer (some ⟨p, 0, none⟩)) ≠ .pointer (some ⟨q, 0, none⟩) := by
  intro e; injection e with e; injection e with e; injection e with e; exact h e
theorem SSt.a5 (h : SSt w1 X Y k false be t16 t18 t5 t6 wx) : SSt w1 X Y k true be t16 t18 (.pointer (some ⟨wx.heap.size, 0, none⟩)) t6 (wx.alloc (.cells #[.slice none 0 0, .slice none 0 0] 25)) :=
  let h' := h.on (Ba wx (.cells #[.slice none 0 0, .slice none 0 0] 25))
  ⟨h'.bel, h'.i1, h'.i2, fun _ => ⟨_, rfl, h.bel.size, GBox.new _ _ _ _ _ _ _ _⟩, h'.b6, fun _ e => by
    obtain ⟨p, rfl, h2, h3⟩ := h.b6 e
    exact gptr_ne (Nat.ne_of_gt h3.lt)⟩
theorem SSt.a6 (h : SSt w1 X Y k al false t16 t18 t5 t6 wx) : SSt w1 X Y k al true t16 t18 t5 (.pointer (some ⟨wx.heap.size, 0, none⟩)) (wx.alloc (.cells #[.slice none 0 0, .slice none 0 0] 25)) :=
  let h' := h.on (Ba wx (.cells #[.slice none 0 0, .slice none 0 0] 25))
  ⟨h'.bel, h'.i1, h'.i2, h'.b5, fun _ => ⟨_, rfl, h.bel.size, GBox.new _ _ _ _ _ _ _ _⟩, fun e _ => by
    obtain ⟨p, rfl, h2, h3⟩ := h.b5 e
    exact gptr_ne (Nat.ne_of_lt h3.lt)⟩
theorem SSt.mk0 (hb : Below w1.heap.size w1 wx) : SSt w1 X Y 0 false false t16 t18 t5 t6 wx :=
  ⟨hb, fun e => by omega, fun e => by omega, fun e => (by cases e), fun e => (by cases e), fun e => (by cases e)⟩
/-- The cells of the two that are handed in, in a world behind w1. -/
def GHeld (w1 : World) (p q : Nat) (a0 a1 b0 b1 : Value) (wx : World) : Prop := (wx.cell? ⟨p, 0, none⟩ = some a0 ∧ wx.cell? ⟨p, 1, none⟩ = some a1 ∧ wx.cell? ⟨q, 0, none⟩ = some b0 ∧ wx.cell? ⟨q, 1, none⟩ = some b1) ∧ Below w1.heap.size w1 wx
theorem GHeld.on {p q : Nat} {a0 a1 b0 b1 : Value} (h : GHeld w1 p q a0 a1 b0 b1 wx) (hb : Below wx.heap.size wx wy) : GHeld w1 p q a0 a1 b0 b1 wy :=
  ⟨⟨(hb.cell (p := ⟨p, 0, none⟩) (cell_lt h.1.1)).trans h.1.1, (hb.cell (p := ⟨p, 1, none⟩) (cell_lt h.1.1)).trans h.1.2.1, (hb.cell (p := ⟨q, 0, none⟩) (cell_lt h.1.2.2.1)).trans h.1.2.2.1, (hb.cell (p := ⟨q, 1, none⟩) (cell_lt h.1.2.2.1)).trans h.1.2.2.2⟩, Bt h.2 hb⟩
theorem GHeld.set2 {p q s : Nat} {a0 a1 b0 b1 u v : Value} (h : GHeld w1 p q a0 a1 b0 b1 wx) (hs : w1.heap.size ≤ s) (hp : p < w1.heap.size) (hq : q < w1.heap.size) : GHeld w1 p q a0 a1 b0 b1 ((wx.setCell ⟨s, 0, none⟩ u).setCell ⟨s, 1, none⟩ v) := by
  have e1 : ∀ k : Nat, ((wx.setCell ⟨s, 0, none⟩ u).setCell ⟨s, 1, none⟩ v).cell? ⟨p, k, none⟩ = wx.cell? ⟨p, k, none⟩ := fun k => World.cell?_of_block (a := ⟨p, k, none⟩) (store2_far (by show p ≠ s; omega))
  have e2 : ∀ k : Nat, ((wx.setCell ⟨s, 0, none⟩ u).setCell ⟨s, 1, none⟩ v).cell? ⟨q, k, none⟩ = wx.cell? ⟨q, k, none⟩ := fun k => World.cell?_of_block (a := ⟨q, k, none⟩) (store2_far (by show q ≠ s; omega))
  exact ⟨⟨(e1 0).trans h.1.1, (e1 1).trans h.1.2.1, (e2 0).trans h.1.2.2.1, (e2 1).trans h.1.2.2.2⟩, store2_below h.2 hs⟩
end
def Lsm (s : Nat × Bool × Bool) : Array Bool := #[true, Nat.ble 1 s.1, true, Nat.ble 2 s.1, s.2.1, s.2.2, false, false]
def Msm (s : Nat × Bool × Bool) : Nat := (2 - s.1) + (if s.2.1 then 0 else 1) + (if s.2.2 then 0 else 1)

set_option maxHeartbeats 4000000 in
theorem same_g (an ar : Option Addr) (nn cn nr cr : Nat) (ns : List Nd) (rs : List Int) (an' ar' : Option Addr) (nn' cn' nr' cr' : Nat) (ns' : List Nd) (rs' : List Int) (w : World) (G : GOk w an nn cn ar nr cr ns rs) (G' : GOk w an' nn' cn' ar' nr' cr' ns' rs') (hT : Tabs w) :
    Calls Tryd.prog 9 #[GVal an nn cn ar nr cr, GVal an' nn' cn' ar' nr' cr'] w fun e w' => e = .returned (.bool (sameGB ns rs ns' rs')) ∧ Below w.heap.size w w' := by
  have HG := hid G
  have HG' := hid G'
  have HT := hid hT
  unfold GVal
  clear G G' hT
  go_enter Tryd.func9, Tryd.ntmps9
  go_wp2_with fail
  have bA := Baa w (.cells #[.slice an nn cn, .slice ar nr cr] 25) (.cells #[.slice an' nn' cn', .slice ar' nr' cr'] 25)
  have x1 := (GBox.new 25 w an ar nn cn nr cr).on (Ba (w.alloc (.cells #[.slice an nn cn, .slice ar nr cr] 25)) (.cells #[.slice an' nn' cn', .slice ar' nr' cr'] 25))
  have x2 := GBox.new 25 (w.alloc (.cells #[.slice an nn cn, .slice ar nr cr] 25)) an' ar' nn' cn' nr' cr'
  rw [size_alloc] at x2
  generalize (w.alloc (.cells #[.slice an nn cn, .slice ar nr cr] 25)).alloc (.cells #[.slice an' nn' cn', .slice ar' nr' cr'] 25) = W1 at *
  obtain ⟨g1, hg1⟩ : ∃ g, g = w.heap.size := ⟨_, rfl⟩
  obtain ⟨g2, hg2⟩ : ∃ g, g = w.heap.size + 1 := ⟨_, rfl⟩
  rw [← hg2] at x2
  rw [← hg1] at x1
  rw [← hg2, ← hg1]
  clear hg1 hg2
  refine (good_g an ar nn cn nr cr ns rs W1 (HG.out.is.below bA) HG.out.small HG.out.nn_le (HT.out.below bA)).mono ?_
  rintro e w2 ⟨rfl, b2⟩
  have y1 := x1.on b2
  have y2 := x2.on b2
  have HB2 := hid (Bt bA b2)
  have Y1 := hid y1
  have Y2 := hid y2
  obtain ⟨z1, z2⟩ := y1.c
  obtain ⟨v1, v2⟩ := y2.c
  clear bA x1 x2 b2 y1 y2
  obtain ⟨gd, hgd⟩ : ∃ gd, gd = goodG ns rs := ⟨_, rfl⟩
  rw [← hgd]
  have HGD := hid hgd
  clear hgd
  cases gd
  · go_wp2_with fail
    go_ret
    exact ⟨by unfold sameGB; rw [← HGD.out]; simp, HB2.out⟩
  · go_wp2_with fail
    refine (good_g an' ar' nn' cn' nr' cr' ns' rs' w2 (HG'.out.is.below HB2.out) HG'.out.small HG'.out.nn_le (HT.out.below HB2.out)).mono ?_
    rintro e w3 ⟨rfl, b3⟩
    have HB3 := hid (Bt HB2.out b3)
    have Z1 := hid (Y1.out.on b3)
    have Z2 := hid (Y2.out.on b3)
    clear z1 z2 v1 v2
    obtain ⟨z1, z2⟩ := Z1.out.c
    obtain ⟨v1, v2⟩ := Z2.out.c
    clear b3
    obtain ⟨gd', hgd'⟩ : ∃ gd, gd = goodG ns' rs' := ⟨_, rfl⟩
    rw [← hgd']
    have HGD' := hid hgd'
    clear hgd'
    cases gd'
    · go_wp2_with fail
      go_ret
      exact ⟨by unfold sameGB; rw [← HGD'.out]; simp, HB3.out⟩
    · go_wp2_with fail
      have HG3 := hid (HG.out.below HB3.out)
      have HG3' := hid (HG'.out.below HB3.out)
      have HT3 := hid (HT.out.below HB3.out)
      have hlt1 := Z1.out.lt
      have hlt2 := Z2.out.lt
      have HS0 : Hid (GHeld w3 g1 g2 (.slice an nn cn) (.slice ar nr cr) (.slice an' nn' cn') (.slice ar' nr' cr') w3) := ⟨⟨z1, z2, v1, v2⟩, Below.refl _ _⟩
      clear HG HG' HT HB2 Y1 Y2 z1 z2 v1 v2
      refine wp_region_held_drew (S := GHeld w3 g1 g2 (.slice an nn cn) (.slice ar nr cr) (.slice an' nn' cn') (.slice ar' nr' cr')) (by kernel_rfl) (HS0.out.on (Bd w3 1)) (fun hHeld => ?_)
      refine htake 0 (some 15) (.agg #[.slice an nn cn, .slice ar nr cr]) rfl rfl (by kernel_rfl) (by kernel_rfl) (by kernel_rfl) (fun _ _ _ h => h) (Or.inl ⟨by rfl, fun wx hSw => ?_⟩) (by assumption) ?_
      · obtain ⟨⟨s0, s1, s2, s3⟩, _⟩ := hSw
        go_simp
      simp only [Act.put, List.setIfInBounds_toArray, List.set_cons_zero, List.set_cons_succ]
      refine htake 2 (some 17) (.agg #[.slice an' nn' cn', .slice ar' nr' cr']) rfl rfl (by kernel_rfl) (by kernel_rfl) (by kernel_rfl) (fun _ _ _ h => h) (Or.inl ⟨by rfl, fun wx hSw => ?_⟩) (by assumption) ?_
      · obtain ⟨⟨s0, s1, s2, s3⟩, _⟩ := hSw
        go_simp
      simp only [Act.put, List.setIfInBounds_toArray, List.set_cons_zero, List.set_cons_succ]
      refine wpAnyH_from Lsm Msm (fun a0 s a wx => s.1 ≤ 2 ∧ GHeld w3 g1 g2 (.slice an nn cn) (.slice ar nr cr) (.slice an' nn' cn') (.slice ar' nr' cr') wx ∧ ∃ t16 t18 t5 t6, a = (((a0.put (some 16) t16).put (some 18) t18).put (some 5) t5).put (some 6) t6 ∧ SSt w3 (canonN ns rs) (canonN ns' rs') s.1 s.2.1 s.2.2 t16 t18 t5 t6 wx) 2 4 (0, false, false) rfl ?_ ?_
      · exact ⟨by decide, hHeld, undef, undef, undef, undef, rfl, SSt.mk0 (Bd w3 1)⟩
      clear hHeld
      rintro ⟨k, al, be⟩ a wx ⟨hk, hH, t16, t18, t5, t6, rfl, hst⟩
      simp only [Act.put, List.setIfInBounds_toArray, List.set_cons_zero, List.set_cons_succ]
      simp only at hk hst
      have HHe := hid hH
      have HSt := hid hst
      clear hH hst
      rcases (show k = 0 ∨ k = 1 ∨ k = 2 by omega) with rfl | rfl | rfl <;> clear hk <;> cases al <;> cases be
      · refine .inr ⟨[1, 4, 5], by decide, by kernel_rfl, by simp, ?_⟩
        refine Steps.cons (1, false, false) rfl rfl rfl (fun K hK => ?_) ?_
        · go_simp; go_at_call 17; refine (canonN_any (HG3.out.below HSt.out.bel) (HT3.out.below HSt.out.bel)).mono ?_; rintro e wy ⟨b1, b2, b3, b4, b5, b6, rfl, iv, bv⟩; exact hK.out _ _ (HHe.out.on bv) ⟨by decide, HHe.out.on bv, _, t18, t5, t6, rfl, HSt.out.s1 bv ⟨_, _, _, _, _, _, rfl, iv⟩⟩
        refine Steps.cons (0, true, false) rfl rfl rfl (fun K hK => ?_) ?_
        · go_simp; exact hK.out _ _ (HHe.out.on (Ba _ _)) ⟨by decide, HHe.out.on (Ba _ _), t16, t18, .pointer (some ⟨wx.heap.size, 0, none⟩), t6, rfl, HSt.out.a5⟩
        refine Steps.cons (0, false, true) rfl rfl rfl (fun K hK => ?_) ?_
        · go_simp; exact hK.out _ _ (HHe.out.on (Ba _ _)) ⟨by decide, HHe.out.on (Ba _ _), t16, t18, t5, .pointer (some ⟨wx.heap.size, 0, none⟩), rfl, HSt.out.a6⟩
        exact Steps.nil
      · refine .inr ⟨[1, 4], by decide, by kernel_rfl, by simp, ?_⟩
        refine Steps.cons (1, false, true) rfl rfl rfl (fun K hK => ?_) ?_
        · go_simp; go_at_call 17; refine (canonN_any (HG3.out.below HSt.out.bel) (HT3.out.below HSt.out.bel)).mono ?_; rintro e wy ⟨b1, b2, b3, b4, b5, b6, rfl, iv, bv⟩; exact hK.out _ _ (HHe.out.on bv) ⟨by decide, HHe.out.on bv, _, t18, t5, t6, rfl, HSt.out.s1 bv ⟨_, _, _, _, _, _, rfl, iv⟩⟩
        refine Steps.cons (0, true, true) rfl rfl rfl (fun K hK => ?_) ?_
        · go_simp; exact hK.out _ _ (HHe.out.on (Ba _ _)) ⟨by decide, HHe.out.on (Ba _ _), t16, t18, .pointer (some ⟨wx.heap.size, 0, none⟩), t6, rfl, HSt.out.a5⟩
        exact Steps.nil
      · refine .inr ⟨[1, 5], by decide, by kernel_rfl, by simp, ?_⟩
        refine Steps.cons (1, true, false) rfl rfl rfl (fun K hK => ?_) ?_
        · go_simp; go_at_call 17; refine (canonN_any (HG3.out.below HSt.out.bel) (HT3.out.below HSt.out.bel)).mono ?_; rintro e wy ⟨b1, b2, b3, b4, b5, b6, rfl, iv, bv⟩; exact hK.out _ _ (HHe.out.on bv) ⟨by decide, HHe.out.on bv, _, t18, t5, t6, rfl, HSt.out.s1 bv ⟨_, _, _, _, _, _, rfl, iv⟩⟩
        refine Steps.cons (0, true, true) rfl rfl rfl (fun K hK => ?_) ?_
        · go_simp; exact hK.out _ _ (HHe.out.on (Ba _ _)) ⟨by decide, HHe.out.on (Ba _ _), t16, t18, t5, .pointer (some ⟨wx.heap.size, 0, none⟩), rfl, HSt.out.a6⟩
        exact Steps.nil
      · refine .inr ⟨[1], by decide, by kernel_rfl, by simp, ?_⟩
        refine Steps.cons (1, true, true) rfl rfl rfl (fun K hK => ?_) ?_
        · go_simp; go_at_call 17; refine (canonN_any (HG3.out.below HSt.out.bel) (HT3.out.below HSt.out.bel)).mono ?_; rintro e wy ⟨b1, b2, b3, b4, b5, b6, rfl, iv, bv⟩; exact hK.out _ _ (HHe.out.on bv) ⟨by decide, HHe.out.on bv, _, t18, t5, t6, rfl, HSt.out.s1 bv ⟨_, _, _, _, _, _, rfl, iv⟩⟩
        exact Steps.nil
      · refine .inr ⟨[3, 4, 5], by decide, by kernel_rfl, by simp, ?_⟩
        refine Steps.cons (2, false, false) rfl rfl rfl (fun K hK => ?_) ?_
        · go_simp; go_at_call 17; refine (canonN_any (HG3'.out.below HSt.out.bel) (HT3.out.below HSt.out.bel)).mono ?_; rintro e wy ⟨b1, b2, b3, b4, b5, b6, rfl, iv, bv⟩; exact hK.out _ _ (HHe.out.on bv) ⟨by decide, HHe.out.on bv, t16, _, t5, t6, rfl, HSt.out.s2 bv ⟨_, _, _, _, _, _, rfl, iv⟩⟩
        refine Steps.cons (1, true, false) rfl rfl rfl (fun K hK => ?_) ?_
        · go_simp; exact hK.out _ _ (HHe.out.on (Ba _ _)) ⟨by decide, HHe.out.on (Ba _ _), t16, t18, .pointer (some ⟨wx.heap.size, 0, none⟩), t6, rfl, HSt.out.a5⟩
        refine Steps.cons (1, false, true) rfl rfl rfl (fun K hK => ?_) ?_
        · go_simp; exact hK.out _ _ (HHe.out.on (Ba _ _)) ⟨by decide, HHe.out.on (Ba _ _), t16, t18, t5, .pointer (some ⟨wx.heap.size, 0, none⟩), rfl, HSt.out.a6⟩
        exact Steps.nil
      · refine .inr ⟨[3, 4], by decide, by kernel_rfl, by simp, ?_⟩
        refine Steps.cons (2, false, true) rfl rfl rfl (fun K hK => ?_) ?_
        · go_simp; go_at_call 17; refine (canonN_any (HG3'.out.below HSt.out.bel) (HT3.out.below HSt.out.bel)).mono ?_; rintro e wy ⟨b1, b2, b3, b4, b5, b6, rfl, iv, bv⟩; exact hK.out _ _ (HHe.out.on bv) ⟨by decide, HHe.out.on bv, t16, _, t5, t6, rfl, HSt.out.s2 bv ⟨_, _, _, _, _, _, rfl, iv⟩⟩
        refine Steps.cons (1, true, true) rfl rfl rfl (fun K hK => ?_) ?_
        · go_simp; exact hK.out _ _ (HHe.out.on (Ba _ _)) ⟨by decide, HHe.out.on (Ba _ _), t16, t18, .pointer (some ⟨wx.heap.size, 0, none⟩), t6, rfl, HSt.out.a5⟩
        exact Steps.nil
      · refine .inr ⟨[3, 5], by decide, by kernel_rfl, by simp, ?_⟩
        refine Steps.cons (2, true, false) rfl rfl rfl (fun K hK => ?_) ?_
        · go_simp; go_at_call 17; refine (canonN_any (HG3'.out.below HSt.out.bel) (HT3.out.below HSt.out.bel)).mono ?_; rintro e wy ⟨b1, b2, b3, b4, b5, b6, rfl, iv, bv⟩; exact hK.out _ _ (HHe.out.on bv) ⟨by decide, HHe.out.on bv, t16, _, t5, t6, rfl, HSt.out.s2 bv ⟨_, _, _, _, _, _, rfl, iv⟩⟩
        refine Steps.cons (1, true, true) rfl rfl rfl (fun K hK => ?_) ?_
        · go_simp; exact hK.out _ _ (HHe.out.on (Ba _ _)) ⟨by decide, HHe.out.on (Ba _ _), t16, t18, t5, .pointer (some ⟨wx.heap.size, 0, none⟩), rfl, HSt.out.a6⟩
        exact Steps.nil
      · refine .inr ⟨[3], by decide, by kernel_rfl, by simp, ?_⟩
        refine Steps.cons (2, true, true) rfl rfl rfl (fun K hK => ?_) ?_
        · go_simp; go_at_call 17; refine (canonN_any (HG3'.out.below HSt.out.bel) (HT3.out.below HSt.out.bel)).mono ?_; rintro e wy ⟨b1, b2, b3, b4, b5, b6, rfl, iv, bv⟩; exact hK.out _ _ (HHe.out.on bv) ⟨by decide, HHe.out.on bv, t16, _, t5, t6, rfl, HSt.out.s2 bv ⟨_, _, _, _, _, _, rfl, iv⟩⟩
        exact Steps.nil
      · refine .inr ⟨[4, 5], by decide, by kernel_rfl, by simp, ?_⟩
        refine Steps.cons (2, true, false) rfl rfl rfl (fun K hK => ?_) ?_
        · go_simp; exact hK.out _ _ (HHe.out.on (Ba _ _)) ⟨by decide, HHe.out.on (Ba _ _), t16, t18, .pointer (some ⟨wx.heap.size, 0, none⟩), t6, rfl, HSt.out.a5⟩
        refine Steps.cons (2, false, true) rfl rfl rfl (fun K hK => ?_) ?_
        · go_simp; exact hK.out _ _ (HHe.out.on (Ba _ _)) ⟨by decide, HHe.out.on (Ba _ _), t16, t18, t5, .pointer (some ⟨wx.heap.size, 0, none⟩), rfl, HSt.out.a6⟩
        exact Steps.nil
      · refine .inr ⟨[4], by decide, by kernel_rfl, by simp, ?_⟩
        refine Steps.cons (2, true, true) rfl rfl rfl (fun K hK => ?_) ?_
        · go_simp; exact hK.out _ _ (HHe.out.on (Ba _ _)) ⟨by decide, HHe.out.on (Ba _ _), t16, t18, .pointer (some ⟨wx.heap.size, 0, none⟩), t6, rfl, HSt.out.a5⟩
        exact Steps.nil
      · refine .inr ⟨[5], by decide, by kernel_rfl, by simp, ?_⟩
        refine Steps.cons (2, true, true) rfl rfl rfl (fun K hK => ?_) ?_
        · go_simp; exact hK.out _ _ (HHe.out.on (Ba _ _)) ⟨by decide, HHe.out.on (Ba _ _), t16, t18, t5, .pointer (some ⟨wx.heap.size, 0, none⟩), rfl, HSt.out.a6⟩
        exact Steps.nil
      · refine .inl ⟨rfl, ?_⟩
        obtain ⟨p5, rfl, hp5, B5⟩ := HSt.out.b5 rfl
        obtain ⟨p6, rfl, hp6, B6⟩ := HSt.out.b6 rfl
        have hne : p5 ≠ p6 := fun e => HSt.out.ne rfl rfl (by rw [e])
        obtain ⟨a1, n1, c1, a2, n2, c2, rfl, I1⟩ := HSt.out.i1 (by omega)
        obtain ⟨d1, m1, e1, d2, m2, e2, rfl, I2⟩ := HSt.out.i2 (by omega)
        unfold GVal
        have B56 : GBox 25 ((wx.setCell ⟨p5, 0, none⟩ (.slice a1 n1 c1)).setCell ⟨p5, 1, none⟩ (.slice a2 n2 c2)) p6 none 0 0 none 0 0 := (store2_far hne.symm).trans B6
        have HJ1 := hid ((I1.set2 B5 (.slice a1 n1 c1) (.slice a2 n2 c2)).set2 B56 (.slice d1 m1 e1) (.slice d2 m2 e2))
        have HJ2 := hid ((I2.set2 B5 (.slice a1 n1 c1) (.slice a2 n2 c2)).set2 B56 (.slice d1 m1 e1) (.slice d2 m2 e2))
        have HBW := hid (store2_below (v1 := .slice d1 m1 e1) (v2 := .slice d2 m2 e2) (store2_below (v1 := .slice a1 n1 c1) (v2 := .slice a2 n2 c2) HSt.out.bel hp5) hp6)
        have X5 := hid ((store2_far (g := p6) (v1 := .slice d1 m1 e1) (v2 := .slice d2 m2 e2) hne).trans (store2 (v1 := .slice a1 n1 c1) (v2 := .slice a2 n2 c2) B5))
        have X6 := hid (store2 (v1 := .slice d1 m1 e1) (v2 := .slice d2 m2 e2) B56)
        have c50 : wx.cell? ⟨p5, 0, none⟩ = some (.slice none 0 0) := blk_cell B5 0
        have c51 : wx.cell? ⟨p5, 1, none⟩ = some (.slice none 0 0) := blk_cell B5 1
        have f50 : wx.frozen? ⟨p5, 0, none⟩ = false := blk_free B5 0
        have f51 : wx.frozen? ⟨p5, 1, none⟩ = false := blk_free B5 1
        have HB56 := hid B56
        clear HSt I1 I2 B5 B6 B56
        refine hone 6 _ rfl (by kernel_rfl) (fun K hK => ?_)
        go_simp
        refine hK.out _ _ (HHe.out.set2 hp5 hlt1 hlt2) (fun hHeld => ?_)
        clear hK K c50 c51 f50 f51
        have c60 := blk_cell HB56.out 0
        have c61 := blk_cell HB56.out 1
        have f60 := blk_free HB56.out 0
        have f61 := blk_free HB56.out 1
        refine hone 7 _ rfl (by kernel_rfl) (fun K hK => ?_)
        go_simp
        refine hK.out _ _ (GHeld.set2 hHeld hp6 hlt1 hlt2) (fun hHeld2 => ?_)
        clear hK K c60 c61 f60 f61 hHeld hHeld2 HB56 HHe
        refine wpAnyH_done (by kernel_rfl) ?_ _
        generalize ((((wx.setCell ⟨p5, 0, none⟩ (.slice a1 n1 c1)).setCell ⟨p5, 1, none⟩ (.slice a2 n2 c2)).setCell ⟨p6, 0, none⟩ (.slice d1 m1 e1)).setCell ⟨p6, 1, none⟩ (.slice d2 m2 e2)) = W4 at *
        have u0 : W4.cell? ⟨p5, 0, none⟩ = some (.slice a1 n1 c1) := blk_cell X5.out 0
        have u1 : W4.cell? ⟨p5, 1, none⟩ = some (.slice a2 n2 c2) := blk_cell X5.out 1
        have u2 : W4.cell? ⟨p6, 0, none⟩ = some (.slice d1 m1 e1) := blk_cell X6.out 0
        have u3 : W4.cell? ⟨p6, 1, none⟩ = some (.slice d2 m2 e2) := blk_cell X6.out 1
        have HB4 := hid (Bt HB3.out HBW.out)
        clear HBW HB3 Z1 Z2 HS0 HG3 HG3' HT3 hp5 hp6 hne hlt1 hlt2
        go_wp2_with fail
        refine (eqNodes_any _ _ _ _ _ _ _ _ W4 HJ1.out.nodes HJ2.out.nodes).mono ?_
        rintro e w5 ⟨rfl, b5⟩
        have HJ3 := hid (HJ1.out.below b5)
        have HJ4 := hid (HJ2.out.below b5)
        have y5 := (b5.block p5 (Array.getElem?_eq_some_iff.1 X5.out).1).trans X5.out
        have y6 := (b5.block p6 (Array.getElem?_eq_some_iff.1 X6.out).1).trans X6.out
        clear u0 u1 u2 u3
        have u1 : w5.cell? ⟨p5, 1, none⟩ = some (.slice a2 n2 c2) := blk_cell y5 1
        have u3 : w5.cell? ⟨p6, 1, none⟩ = some (.slice d2 m2 e2) := blk_cell y6 1
        have HB5 := hid (Bt HB4.out b5)
        clear y5 y6 X5 X6 HJ1 HJ2 HB4 b5
        obtain ⟨q1, hq1⟩ : ∃ q, q = decide ((canonN ns rs).1 = (canonN ns' rs').1) := ⟨_, rfl⟩
        rw [← hq1]
        have HQ1 := hid hq1
        clear hq1
        have hsm : Hid (sameGB ns rs ns' rs' = (q1 && decide ((canonN ns rs).2 = (canonN ns' rs').2))) := by unfold Hid sameGB; rw [← HGD.out, ← HGD'.out, HQ1.out]; rfl
        cases q1
        · go_wp2_with fail
          go_ret
          exact ⟨by rw [hsm.out]; rfl, HB5.out⟩
        · go_wp2_with fail
          refine (eqInts_any _ _ _ _ _ _ _ _ w5 HJ3.out.roots HJ4.out.roots).mono ?_
          rintro e w6 ⟨rfl, b6⟩
          have HB6 := hid (Bt HB5.out b6)
          clear b6 u1 u3
          go_wp2_with fail
          go_ret
          exact ⟨by rw [hsm.out]; simp, HB6.out⟩
end Go.Proofs.YtfkdpomhojhapaaDoor
