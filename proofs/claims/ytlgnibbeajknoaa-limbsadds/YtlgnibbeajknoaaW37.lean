/-
  States of a region that turns the signs of two integers twice, and makes two boxes.
-/
import Derived.Test.YtlgnibbeajknoaaW35
import Derived.Test.YtlgnibbeajknoaaW36
set_option linter.unusedVariables false
set_option linter.unusedSimpArgs false
namespace Go.Proofs.Ytlgnibbeajknoaa
open Go.RowKit

theorem rneg_is (x : Value) (z : Int) (w : World) (h : IsInt w x z) : Calls Try.prog 21 #[x] w fun e w' => ∃ y, e = .returned y ∧ IsInt w' y (-z) ∧ Below w.heap.size w w' := by
  obtain ⟨s, ao, n, cap, l, rfl, R, g, rfl⟩ := h.open_
  exact rneg_any s ao n cap l w R g

def st0 (p : Nat) : Value := .pointer (some ⟨p, 0, none⟩)
structure St (w1 : World) (A B : Int) (xa xb : Value) (k : Nat) (al be : Bool) (t22 t23 t25 t26 t5 t6 : Value) (wx : World) : Prop where
  bel : Below w1.heap.size w1 wx
  ia : IsInt wx xa A
  ib : IsInt wx xb B
  i1 : 1 ≤ k → IsInt wx t22 (-A)
  i2 : 2 ≤ k → IsInt wx t23 A
  i3 : 3 ≤ k → IsInt wx t25 (-B)
  i4 : 4 ≤ k → IsInt wx t26 B
  b5 : al = true → ∃ p, t5 = .pointer (some ⟨p, 0, none⟩) ∧ w1.heap.size ≤ p ∧ Box 24 wx p false none 0 0
  b6 : be = true → ∃ p, t6 = .pointer (some ⟨p, 0, none⟩) ∧ w1.heap.size ≤ p ∧ Box 24 wx p false none 0 0
  ne : al = true → be = true → t5 ≠ t6

variable {w1 wx wy : World} {A B : Int} {xa xb : Value} {k : Nat} {al be : Bool} {t22 t23 t25 t26 t5 t6 : Value}

theorem St.on (h : St w1 A B xa xb k al be t22 t23 t25 t26 t5 t6 wx) (hb : Below wx.heap.size wx wy) : St w1 A B xa xb k al be t22 t23 t25 t26 t5 t6 wy :=
  ⟨Bt h.bel hb, h.ia.below hb, h.ib.below hb, fun e => (h.i1 e).below hb, fun e => (h.i2 e).below hb, fun e => (h.i3 e).below hb, fun e => (h.i4 e).below hb,
    fun e => by obtain ⟨p, h1, h2, h3⟩ := h.b5 e; exact ⟨p, h1, h2, h3.on hb⟩, fun e => by obtain ⟨p, h1, h2, h3⟩ := h.b6 e; exact ⟨p, h1, h2, h3.on hb⟩, h.ne⟩
theorem St.s1 (h : St w1 A B xa xb 0 al be t22 t23 t25 t26 t5 t6 wx) (hb : Below wx.heap.size wx wy) {v : Value} (hv : IsInt wy v (-A)) : St w1 A B xa xb 1 al be v t23 t25 t26 t5 t6 wy :=
  ⟨Bt h.bel hb, h.ia.below hb, h.ib.below hb, fun _ => hv, fun e => by omega, fun e => by omega, fun e => by omega, (h.on hb).b5, (h.on hb).b6, h.ne⟩
theorem St.s2 (h : St w1 A B xa xb 1 al be t22 t23 t25 t26 t5 t6 wx) (hb : Below wx.heap.size wx wy) {v : Value} (hv : IsInt wy v (- -A)) : St w1 A B xa xb 2 al be t22 v t25 t26 t5 t6 wy :=
  ⟨Bt h.bel hb, h.ia.below hb, h.ib.below hb, fun _ => (h.on hb).i1 (by omega), fun e => by rw [Int.neg_neg] at hv; exact hv, fun e => by omega, fun e => by omega, (h.on hb).b5, (h.on hb).b6, h.ne⟩
theorem St.s3 (h : St w1 A B xa xb 2 al be t22 t23 t25 t26 t5 t6 wx) (hb : Below wx.heap.size wx wy) {v : Value} (hv : IsInt wy v (-B)) : St w1 A B xa xb 3 al be t22 t23 v t26 t5 t6 wy :=
  ⟨Bt h.bel hb, h.ia.below hb, h.ib.below hb, fun _ => (h.on hb).i1 (by omega), fun e => (h.on hb).i2 (by omega), fun e => hv, fun e => by omega, (h.on hb).b5, (h.on hb).b6, h.ne⟩
theorem St.s4 (h : St w1 A B xa xb 3 al be t22 t23 t25 t26 t5 t6 wx) (hb : Below wx.heap.size wx wy) {v : Value} (hv : IsInt wy v (- -B)) : St w1 A B xa xb 4 al be t22 t23 t25 v t5 t6 wy :=
  ⟨Bt h.bel hb, h.ia.below hb, h.ib.below hb, fun _ => (h.on hb).i1 (by omega), fun e => (h.on hb).i2 (by omega), fun e => (h.on hb).i3 (by omega), fun e => by rw [Int.neg_neg] at hv; exact hv, (h.on hb).b5, (h.on hb).b6, h.ne⟩
theorem ptr_ne {p q : Nat} (h : p ≠ q) : (Value.pointer (some ⟨p, 0, none⟩)) ≠ .pointer (some ⟨q, 0, none⟩) := by
  intro e; injection e with e; injection e with e; injection e with e; exact h e
theorem St.a5 (h : St w1 A B xa xb k false be t22 t23 t25 t26 t5 t6 wx) : St w1 A B xa xb k true be t22 t23 t25 t26 (.pointer (some ⟨wx.heap.size, 0, none⟩)) t6 (wx.alloc (.cells #[.bool false, .slice none 0 0] 24)) :=
  let h' := h.on (Ba wx (.cells #[.bool false, .slice none 0 0] 24))
  ⟨h'.bel, h'.ia, h'.ib, h'.i1, h'.i2, h'.i3, h'.i4, fun _ => ⟨_, rfl, h.bel.size, Box.new _ _ _ _ _ _⟩, h'.b6, fun _ e => by
    obtain ⟨p, rfl, h2, h3⟩ := h.b6 e
    exact ptr_ne (Nat.ne_of_gt h3.lt)⟩
theorem St.a6 (h : St w1 A B xa xb k al false t22 t23 t25 t26 t5 t6 wx) : St w1 A B xa xb k al true t22 t23 t25 t26 t5 (.pointer (some ⟨wx.heap.size, 0, none⟩)) (wx.alloc (.cells #[.bool false, .slice none 0 0] 24)) :=
  let h' := h.on (Ba wx (.cells #[.bool false, .slice none 0 0] 24))
  ⟨h'.bel, h'.ia, h'.ib, h'.i1, h'.i2, h'.i3, h'.i4, h'.b5, fun _ => ⟨_, rfl, h.bel.size, Box.new _ _ _ _ _ _⟩, fun e _ => by
    obtain ⟨p, rfl, h2, h3⟩ := h.b5 e
    exact ptr_ne (Nat.ne_of_lt h3.lt)⟩
theorem St.mk0 (hb : Below w1.heap.size w1 wx) (ha : IsInt wx xa A) (hB : IsInt wx xb B) : St w1 A B xa xb 0 false false t22 t23 t25 t26 t5 t6 wx :=
  ⟨hb, ha, hB, fun e => by omega, fun e => by omega, fun e => by omega, fun e => by omega, fun e => (by cases e), fun e => (by cases e), fun e => (by cases e)⟩

/-- The cells of the two that are handed in, in a world behind w1. -/
def Held (w1 : World) (p q : Nat) (a0 a1 b0 b1 : Value) (wx : World) : Prop := (wx.cell? ⟨p, 0, none⟩ = some a0 ∧ wx.cell? ⟨p, 1, none⟩ = some a1 ∧ wx.cell? ⟨q, 0, none⟩ = some b0 ∧ wx.cell? ⟨q, 1, none⟩ = some b1) ∧ Below w1.heap.size w1 wx
theorem Held.on {p q : Nat} {a0 a1 b0 b1 : Value} (h : Held w1 p q a0 a1 b0 b1 wx) (hb : Below wx.heap.size wx wy) : Held w1 p q a0 a1 b0 b1 wy := ⟨keep4 h.1 hb, Bt h.2 hb⟩
theorem Held.set2 {p q s : Nat} {a0 a1 b0 b1 u v : Value} (h : Held w1 p q a0 a1 b0 b1 wx) (hs : w1.heap.size ≤ s) (hp : p < w1.heap.size) (hq : q < w1.heap.size) : Held w1 p q a0 a1 b0 b1 ((wx.setCell ⟨s, 0, none⟩ u).setCell ⟨s, 1, none⟩ v) :=
  ⟨keep4s h.1 (by omega) (by omega), (h.2.setCell hs u).setCell hs v⟩

def Lst (s : Nat × Bool × Bool) : Array Bool := #[true, Nat.ble 1 s.1, Nat.ble 2 s.1, true, Nat.ble 3 s.1, Nat.ble 4 s.1, s.2.1, s.2.2, false, false]
def Mst (s : Nat × Bool × Bool) : Nat := (4 - s.1) + (if s.2.1 then 0 else 1) + (if s.2.2 then 0 else 1)

end Go.Proofs.Ytlgnibbeajknoaa
