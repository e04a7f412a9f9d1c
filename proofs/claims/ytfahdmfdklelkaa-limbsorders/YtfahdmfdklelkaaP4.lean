/-
  Walk of LimbsOrders: whatever two integers are handed in, the statement answers true.
-/
import Derived.Test.YtfahdmfdklelkaaW22
import Derived.Test.YtfahdmfdklelkaaW24
import Derived.Test.YtfahdmfdklelkaaW16
set_option linter.unusedVariables false
set_option linter.unusedSimpArgs false
namespace Go.Proofs.Ytfahdmfdklelkaa
open Go.RowKit

theorem four_on {W wx wy : World} {p q : Nat} {a0 a1 b0 b1 : Value} (h : (wx.cell? ⟨p, 0, none⟩ = some a0 ∧ wx.cell? ⟨p, 1, none⟩ = some a1 ∧ wx.cell? ⟨q, 0, none⟩ = some b0 ∧ wx.cell? ⟨q, 1, none⟩ = some b1) ∧ Below W.heap.size W wx) (hb : Below wx.heap.size wx wy) :
    (wy.cell? ⟨p, 0, none⟩ = some a0 ∧ wy.cell? ⟨p, 1, none⟩ = some a1 ∧ wy.cell? ⟨q, 0, none⟩ = some b0 ∧ wy.cell? ⟨q, 1, none⟩ = some b1) ∧ Below W.heap.size W wy := ⟨keep4 h.1 hb, Bt h.2 hb⟩
theorem four_bel {W wx : World} {p q : Nat} {a0 a1 b0 b1 : Value} (h : (wx.cell? ⟨p, 0, none⟩ = some a0 ∧ wx.cell? ⟨p, 1, none⟩ = some a1 ∧ wx.cell? ⟨q, 0, none⟩ = some b0 ∧ wx.cell? ⟨q, 1, none⟩ = some b1) ∧ Below W.heap.size W wx) : Below W.heap.size W wx := h.2

set_option maxHeartbeats 4000000 in
theorem limbsOrders_walk (neg : Bool) (ao : Option Addr) (n cap : Nat) (l : List Nat) (neg' : Bool) (ao' : Option Addr) (n' cap' : Nat) (l' : List Nat) (w : World) (R : Row .u32 B32 w ao n cap l) (R' : Row .u32 B32 w ao' n' cap' l') :
    Calls Try.prog 5 #[.agg #[.bool neg, .slice ao n cap], .agg #[.bool neg', .slice ao' n' cap']] w fun e w' => e = .returned (.bool true) ∧ Below w.heap.size w w' := by
  have HR := hid R
  have HR' := hid R'
  clear R R'
  go_enter Try.func5, Try.ntmps5
  go_wp2_with fail
  have bA := Baa w (.cells #[.bool neg, .slice ao n cap] 24) (.cells #[.bool neg', .slice ao' n' cap'] 24)
  have x1 := (Box.new 24 w neg ao n cap).alloc (.cells #[.bool neg', .slice ao' n' cap'] 24)
  have x2 := Box.new 24 (w.alloc (.cells #[.bool neg, .slice ao n cap] 24)) neg' ao' n' cap'
  rw [size_alloc] at x2
  have hsz : ((w.alloc (.cells #[.bool neg, .slice ao n cap] 24)).alloc (.cells #[.bool neg', .slice ao' n' cap'] 24)).heap.size = w.heap.size + 1 + 1 := by rw [size_alloc, size_alloc]
  generalize (w.alloc (.cells #[.bool neg, .slice ao n cap] 24)).alloc (.cells #[.bool neg', .slice ao' n' cap'] 24) = WA at *
  have bQ := Ba WA (.cells #[.bool neg, .slice ao n cap, .bool neg', .slice ao' n' cap'] 24)
  have y1 := x1.on bQ
  have y2 := x2.on bQ
  have hq := blk_new WA #[.bool neg, .slice ao n cap, .bool neg', .slice ao' n' cap'] 24
  rw [hsz] at hq
  have b0 := Bt bA bQ
  generalize WA.alloc (.cells #[.bool neg, .slice ao n cap, .bool neg', .slice ao' n' cap'] 24) = W at *
  refine (lgood2 (w.heap.size + 1 + 1) neg neg' ao ao' n cap n' cap' l l' W (blk_cell hq 0) (blk_cell hq 1) (blk_cell hq 2) (blk_cell hq 3) (HR.out.below b0) (HR'.out.below b0)).mono ?_
  rintro e w1 ⟨rfl, b1⟩
  have HB1 := hid (Bt b0 b1)
  have X1 := hid (y1.on b1)
  have X2 := hid (y2.on b1)
  have R1 := hid (HR.out.below HB1.out)
  have R1' := hid (HR'.out.below HB1.out)
  clear x1 x2 y1 y2 hq b0 b1 bQ bA hsz HR HR'
  cases hg : goodB neg l && goodB neg' l'
  · go_wp2_with (go_at_call 11; refine (awake_any _).mono ?_; rintro e w2 ⟨rfl, b2⟩)
    go_ret
    exact ⟨rfl, Bt HB1.out b2⟩
  · rw [Bool.and_eq_true] at hg
    obtain ⟨c, hc⟩ : ∃ c, c = cmpR neg neg' (val B32 l) (val B32 l') := ⟨_, rfl⟩
    obtain ⟨z, hz⟩ : ∃ z, z = - sgn neg (val B32 l) := ⟨_, rfl⟩
    have C1 : Hid (∀ wx, Below w1.heap.size w1 wx → Calls Try.prog 18 #[.agg #[.bool neg, .slice ao n cap], .agg #[.bool neg', .slice ao' n' cap']] wx fun e w' => e = .returned (.int .i64 c) ∧ Below wx.heap.size wx w') := fun wx r => by rw [hc]; exact cmp_any neg neg' ao ao' n cap n' cap' l l' wx (R1.out.below r) (R1'.out.below r) hg.1 hg.2
    have C2 : Hid (∀ wx, Below w1.heap.size w1 wx → Calls Try.prog 19 #[.agg #[.bool neg, .slice ao n cap], .agg #[.bool neg', .slice ao' n' cap']] wx fun e w' => e = .returned (.int .i64 c) ∧ Below wx.heap.size wx w') := fun wx r => by rw [hc]; exact rcmp_any neg neg' ao ao' n cap n' cap' l l' wx (R1.out.below r) (R1'.out.below r) (by have := R1.out.len; have := goodB_len hg.1; omega) (by have := R1'.out.len; have := goodB_len hg.2; omega)
    have C3 : Hid (∀ wx, Below w1.heap.size w1 wx → Calls Try.prog 20 #[.agg #[.bool neg, .slice ao n cap]] wx fun e w' => ∃ x, e = .returned x ∧ IsInt w' x z ∧ Below wx.heap.size wx w') := fun wx r => by rw [hz]; exact neg_any neg ao n cap l wx (R1.out.below r) hg.1
    have C4 : Hid (∀ wx, Below w1.heap.size w1 wx → Calls Try.prog 21 #[.agg #[.bool neg, .slice ao n cap]] wx fun e w' => ∃ x, e = .returned x ∧ IsInt w' x z ∧ Below wx.heap.size wx w') := fun wx r => by rw [hz]; exact rneg_any neg ao n cap l wx (R1.out.below r) hg.1
    have e2 : (c == c) = true := by simp
    have HS0 : Hid ((w1.cell? ⟨w.heap.size, 0, none⟩ = some (.bool neg) ∧ w1.cell? ⟨w.heap.size, 1, none⟩ = some (.slice ao n cap) ∧ w1.cell? ⟨w.heap.size + 1, 0, none⟩ = some (.bool neg') ∧ w1.cell? ⟨w.heap.size + 1, 1, none⟩ = some (.slice ao' n' cap')) ∧ Below w1.heap.size w1 w1) := ⟨⟨X1.out.c.1, X1.out.c.2, X2.out.c.1, X2.out.c.2⟩, Below.refl _ _⟩
    clear hc hz hg
    go_wp2_with fail
    go_region_held3 (fun wx => (wx.cell? ⟨w.heap.size, 0, none⟩ = some (.bool neg) ∧ wx.cell? ⟨w.heap.size, 1, none⟩ = some (.slice ao n cap) ∧ wx.cell? ⟨w.heap.size + 1, 0, none⟩ = some (.bool neg') ∧ wx.cell? ⟨w.heap.size + 1, 1, none⟩ = some (.slice ao' n' cap')) ∧ Below w1.heap.size w1 wx)
      (first | exact four_on HS0.out (Bd w1 1) | exact four_on (by assumption) (by assumption))
      (first
        | (go_at_call 18; refine (C1.out _ ?_).mono ?_; (exact four_bel (p := w.heap.size) (q := w.heap.size + 1) (a0 := .bool neg) (a1 := .slice ao n cap) (b0 := .bool neg') (b1 := .slice ao' n' cap') (by assumption)); rintro e wa ⟨rfl, ba⟩)
        | (go_at_call 19; refine (C2.out _ ?_).mono ?_; (exact four_bel (p := w.heap.size) (q := w.heap.size + 1) (a0 := .bool neg) (a1 := .slice ao n cap) (b0 := .bool neg') (b1 := .slice ao' n' cap') (by assumption)); rintro e wb ⟨rfl, bb⟩)
        | (go_at_call 20; refine (C3.out _ ?_).mono ?_; (exact four_bel (p := w.heap.size) (q := w.heap.size + 1) (a0 := .bool neg) (a1 := .slice ao n cap) (b0 := .bool neg') (b1 := .slice ao' n' cap') (by assumption)); rintro e wc ⟨xa, rfl, ia, bc⟩; have IA := hid ia; clear ia)
        | (go_at_call 21; refine (C4.out _ ?_).mono ?_; (exact four_bel (p := w.heap.size) (q := w.heap.size + 1) (a0 := .bool neg) (a1 := .slice ao n cap) (b0 := .bool neg') (b1 := .slice ao' n' cap') (by assumption)); rintro e wd ⟨xb, rfl, ib, bd⟩; have IB := hid ib; clear ib)
        | (go_at_call 16; refine (same_true xa xb z _ (IA.out.below bd) IB.out).mono ?_; rintro e we ⟨rfl, be⟩)
        | (go_at_call 11; refine (awake_any _).mono ?_; rintro e wf ⟨rfl, bf⟩))
    have HBE : Hid (Below w.heap.size w wf) := Bt HB1.out (four_bel (p := w.heap.size) (q := w.heap.size + 1) (a0 := .bool neg) (a1 := .slice ao n cap) (b0 := .bool neg') (b1 := .slice ao' n' cap') (by assumption))
    rename_i hHeld
    clear hHeld
    go_wp2
    go_ret
    exact ⟨rfl, HBE.out⟩

end Go.Proofs.Ytfahdmfdklelkaa
