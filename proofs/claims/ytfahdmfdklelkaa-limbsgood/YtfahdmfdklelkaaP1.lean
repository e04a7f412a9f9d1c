/-
  Walk of LimbsGood: whatever integer is handed in (of whatever number of limbs), the statement answers true.
-/
import Derived.Test.YtfahdmfdklelkaaW16
set_option linter.unusedVariables false
set_option linter.unusedSimpArgs false
namespace Go.Proofs.Ytfahdmfdklelkaa
open Go.RowKit

theorem one_on {W wx wy : World} {p : Nat} {a0 a1 : Value} (h : wx.cell? ⟨p, 0, none⟩ = some a0 ∧ wx.cell? ⟨p, 1, none⟩ = some a1 ∧ Below W.heap.size W wx) (hb : Below wx.heap.size wx wy) :
    wy.cell? ⟨p, 0, none⟩ = some a0 ∧ wy.cell? ⟨p, 1, none⟩ = some a1 ∧ Below W.heap.size W wy :=
  ⟨(hb.cell (p := ⟨p, 0, none⟩) (cell_lt h.1)).trans h.1, (hb.cell (p := ⟨p, 1, none⟩) (cell_lt h.1)).trans h.2.1, Bt h.2.2 hb⟩
theorem one_bel {W wx : World} {p : Nat} {a0 a1 : Value} (h : wx.cell? ⟨p, 0, none⟩ = some a0 ∧ wx.cell? ⟨p, 1, none⟩ = some a1 ∧ Below W.heap.size W wx) : Below W.heap.size W wx := h.2.2

set_option maxHeartbeats 4000000 in
theorem limbsGood_walk (neg : Bool) (ao : Option Addr) (n cap : Nat) (l : List Nat) (w : World) (R : Row .u32 B32 w ao n cap l) :
    Calls Try.prog 3 #[.agg #[.bool neg, .slice ao n cap]] w fun e w' => e = .returned (.bool true) ∧ Below w.heap.size w w' := by
  have hmx := R.most
  have hft := R.fits
  unfold maxLen at hmx
  have HR := hid R
  clear R
  go_enter Try.func3, Try.ntmps3
  go_wp2
  have X := Box.new 24 w neg ao n cap
  have bW := Ba w (.cells #[.bool neg, .slice ao n cap] 24)
  generalize hW : w.alloc (.cells #[.bool neg, .slice ao n cap] 24) = W at *
  have RW := hid (HR.out.below bW)
  have HBW := hid bW
  have HS0 : Hid (W.cell? ⟨w.heap.size, 0, none⟩ = some (.bool neg) ∧ W.cell? ⟨w.heap.size, 1, none⟩ = some (.slice ao n cap) ∧ Below W.heap.size W W) := ⟨X.c.1, X.c.2, Below.refl _ _⟩
  have hc0 := X.c.1
  have hc1 := X.c.2
  clear hW bW X HR
  by_cases h : 1000 < n
  · have e1 : decide ((1000 : Int) < n) = true := by simp; omega
    clear RW HS0
    go_quiet (fail)
    have HBE : Hid (Below w.heap.size w (W.drewN nq)) := Bt HBW.out (Bd W nq)
    go_wp2
    go_ret
    exact ⟨rfl, HBE.out⟩
  · have e1 : decide ((1000 : Int) < n) = false := by simp; omega
    obtain ⟨gb, hgb⟩ : ∃ gb, gb = goodB neg l := ⟨_, rfl⟩
    have C1 : Hid (∀ wx, Row .u32 B32 wx ao n cap l → Calls Try.prog 9 #[.agg #[.bool neg, .slice ao n cap]] wx fun e w' => e = .returned (.bool gb) ∧ Below wx.heap.size wx w') := fun wx r => by rw [hgb]; exact good_any neg ao n cap l wx r
    have C2 : Hid (∀ wx, Row .u32 B32 wx ao n cap l → Calls Try.prog 10 #[.agg #[.bool neg, .slice ao n cap]] wx fun e w' => e = .returned (.bool gb) ∧ Below wx.heap.size wx w') := fun wx r => by rw [hgb]; exact rgood_any neg ao n cap l wx r
    have e2 : (gb == gb) = true := by simp
    clear hgb
    go_region_held3 (fun wx => wx.cell? ⟨w.heap.size, 0, none⟩ = some (.bool neg) ∧ wx.cell? ⟨w.heap.size, 1, none⟩ = some (.slice ao n cap) ∧ Below W.heap.size W wx)
      (first | exact one_on HS0.out (Bd W 1) | exact one_on (by assumption) (by assumption))
      (first
        | (go_at_call 9; refine (C1.out _ ?_).mono ?_; (exact RW.out.below (one_bel (p := w.heap.size) (a0 := .bool neg) (a1 := .slice ao n cap) (by assumption))); rintro e wa ⟨rfl, ba⟩)
        | (go_at_call 10; refine (C2.out _ ?_).mono ?_; (exact RW.out.below (one_bel (p := w.heap.size) (a0 := .bool neg) (a1 := .slice ao n cap) (by assumption))); rintro e wb ⟨rfl, bb⟩)
        | (go_at_call 11; refine (awake_any _).mono ?_; rintro e wc ⟨rfl, bc⟩))
    have HBE : Hid (Below w.heap.size w wc) := Bt HBW.out (one_bel (p := w.heap.size) (a0 := .bool neg) (a1 := .slice ao n cap) (by assumption))
    rename_i hHeld
    clear hHeld
    go_wp2
    go_ret
    exact ⟨rfl, HBE.out⟩

end Go.Proofs.Ytfahdmfdklelkaa
