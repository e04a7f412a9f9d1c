/-
  Words for rows of numbers in memory, and small laws on them, of whatever program.
-/
import Derived.WalkKit
import Derived.WalkSpells
import Derived.WalkLawsBesides
import Derived.Deep.OwnRows
import Derived.Deep.Draws
import Derived.Test.YthiniidgklilnaaMath
set_option linter.unusedVariables false
set_option linter.unusedSimpArgs false
namespace Go.Proofs.Ythiniidgklilnaa
open Go.RowKit

theorem hid {p : Prop} (h : p) : Hid p := h

/-- The numbers of 'l' (of kind k) lie behind the address. -/
def Rd (k : IntKind) (w : World) (ao : Option Addr) (l : List Nat) : Prop :=
  l = [] ∨ ∃ b o, ao = some ⟨b, o, none⟩ ∧ b < w.heap.size ∧ ∀ i, i < l.length → w.cell? ⟨b, o + i, none⟩ = some (.int k (l.getD i 0 : Nat))

/-- A slice of n numbers of kind k below B, which are those of l. -/
structure Row (k : IntKind) (B : Nat) (w : World) (ao : Option Addr) (n cap : Nat) (l : List Nat) : Prop where
  len : l.length = n
  fits : n ≤ cap
  most : cap ≤ maxLen
  nil_ : ao = none → cap = 0
  dg : Dg B l
  rd : Rd k w ao l

theorem Rd.some {k : IntKind} {w : World} {ao : Option Addr} {l : List Nat} (h : Rd k w ao l) (hl : 0 < l.length) :
    ∃ b o, ao = some ⟨b, o, none⟩ ∧ b < w.heap.size ∧ ∀ i, i < l.length → w.cell? ⟨b, o + i, none⟩ = some (.int k (l.getD i 0 : Nat)) := by
  rcases h with h | h
  · simp [h] at hl
  · exact h
theorem Rd.below {k : IntKind} {w w' : World} {ao : Option Addr} {l : List Nat} (h : Rd k w ao l) (hb : Below w.heap.size w w') : Rd k w' ao l := by
  rcases h with h | ⟨b, o, e, hl, hc⟩
  · exact .inl h
  · exact .inr ⟨b, o, e, Nat.lt_of_lt_of_le hl hb.size, fun i hi => (hb.cell (p := ⟨b, o + i, none⟩) hl).trans (hc i hi)⟩
theorem Rd.take {k : IntKind} {w : World} {ao : Option Addr} {l : List Nat} (h : Rd k w ao l) (m : Nat) : Rd k w ao (l.take m) := by
  rcases h with h | ⟨b, o, e, hl, hc⟩
  · exact .inl (by simp [h])
  · refine .inr ⟨b, o, e, hl, fun i hi => ?_⟩
    rw [List.length_take] at hi
    rw [getD_take (by omega)]
    exact hc i (by omega)
theorem Row.below {k : IntKind} {B : Nat} {w w' : World} {ao : Option Addr} {n cap : Nat} {l : List Nat} (h : Row k B w ao n cap l) (hb : Below w.heap.size w w') : Row k B w' ao n cap l :=
  ⟨h.len, h.fits, h.most, h.nil_, h.dg, h.rd.below hb⟩
theorem Row.take {k : IntKind} {B : Nat} {w : World} {ao : Option Addr} {n cap m : Nat} {l : List Nat} (h : Row k B w ao n cap l) (hm : m ≤ n) (cap' : Nat) (h1 : m ≤ cap') (h2 : cap' ≤ cap) : Row k B w ao m cap' (l.take m) :=
  ⟨by rw [List.length_take, h.len, Nat.min_eq_left hm], h1, Nat.le_trans h2 h.most, fun e => by have := h.nil_ e; omega, h.dg.take m, h.rd.take m⟩
theorem Row.nil (k : IntKind) (B : Nat) (w : World) (ao : Option Addr) : Row k B w ao 0 0 [] := ⟨rfl, Nat.le_refl _, Nat.zero_le _, fun _ => rfl, Dg.nil B, .inl rfl⟩

theorem Ba (w : World) (o : Obj) : Below w.heap.size w (w.alloc o) := (Below.refl _ _).alloc (Nat.le_refl _) o
theorem Bd (w : World) (k : Nat) : Below w.heap.size w (w.drewN k) := ⟨rfl, rfl, rfl, Nat.le_refl _, fun _ _ => rfl⟩
theorem Bt {w w1 w2 : World} (h1 : Below w.heap.size w w1) (h2 : Below w1.heap.size w1 w2) : Below w.heap.size w w2 := h1.trans (h2.mono h1.size)
theorem Bs {w w1 : World} (h1 : Below w.heap.size w w1) {p : Addr} (hp : w.heap.size ≤ p.block) (v : Value) : Below w.heap.size w (w1.setCell p v) := h1.setCell hp v
theorem Baa (w : World) (o o2 : Obj) : Below w.heap.size w ((w.alloc o).alloc o2) := Bt (Ba w o) (Ba _ o2)
theorem Baaa (w : World) (o o2 o3 : Obj) : Below w.heap.size w (((w.alloc o).alloc o2).alloc o3) := Bt (Baa w o o2) (Ba _ o3)

theorem cell_at (w : World) (c : Array Value) (t : TypeId) (b i : Nat) (hb : b = w.heap.size) : (w.alloc (.cells c t)).cell? ⟨b, i, none⟩ = c[i]? := by
  subst hb; exact World.cell?_alloc_mark w c t (0, 0) i
theorem cell_old (w : World) (o : Obj) (b i : Nat) (hb : b < w.heap.size) : (w.alloc o).cell? ⟨b, i, none⟩ = w.cell? ⟨b, i, none⟩ := World.cell?_alloc_past _ _ _ hb
theorem size_alloc (w : World) (o : Obj) : (w.alloc o).heap.size = w.heap.size + 1 := by simp

/-- How two numbers stand. -/
def cmpN (x y : Nat) : Int := if x < y then -1 else if x = y then 0 else 1

def B32 : Nat := 4294967296
theorem B32_eq : B32 = 4294967296 := rfl

theorem bne_nat (d : Nat) : ((d : Int) != 0) = !decide (d = 0) := by
  by_cases h : d = 0
  · subst h; rfl
  · have : ((d : Int) != 0) = true := by rw [bne_iff_ne]; omega
    rw [this]; simp [h]

/-- The value x is the integer with that sign and those limbs. -/
def IntIs (w : World) (x : Value) (neg : Bool) (l : List Nat) : Prop := ∃ ao n cap, x = .agg #[.bool neg, .slice ao n cap] ∧ Row .u32 B32 w ao n cap l
theorem IntIs.below {w w' : World} {x : Value} {neg : Bool} {l : List Nat} (h : IntIs w x neg l) (hb : Below w.heap.size w w') : IntIs w' x neg l := by
  obtain ⟨ao, n, cap, e, R⟩ := h
  exact ⟨ao, n, cap, e, R.below hb⟩

/-- Is it good? -/
def goodB (neg : Bool) (l : List Nat) : Bool := (decide (l.length = 0) && !neg) || (decide (0 < l.length) && decide (l.length ≤ 40) && decide (l.getD (l.length - 1) 0 ≠ 0))
theorem goodB_tr {neg : Bool} {l : List Nat} (h : goodB neg l = true) : Tr l := by
  unfold goodB at h
  by_cases h0 : l.length = 0
  · exact .inl (List.length_eq_zero_iff.1 h0)
  · simp [h0] at h
    exact .inr (by simpa using h.2)
theorem goodB_len {neg : Bool} {l : List Nat} (h : goodB neg l = true) : l.length ≤ 40 := by
  unfold goodB at h
  by_cases h0 : l.length = 0
  · omega
  · simp [h0] at h; omega
theorem goodB_neg {neg : Bool} {l : List Nat} (h : goodB neg l = true) (h0 : l.length = 0) : neg = false := by
  unfold goodB at h
  simp [h0] at h; exact h
theorem goodB_mk {neg : Bool} {l : List Nat} (ht : Tr l) (hl : l.length ≤ 40) (hn : l.length = 0 → neg = false) : goodB neg l = true := by
  unfold goodB
  by_cases h0 : l.length = 0
  · simp [h0, hn h0]
  · have : l.getD (l.length - 1) 0 ≠ 0 := ht.resolve_left (fun e => h0 (by simp [e]))
    simp only [h0, this, hl, decide_true, decide_false, Bool.false_and, Bool.false_or, ne_eq, not_false_eq_true, Bool.and_true, decide_eq_true_eq]
    omega

end Go.Proofs.Ythiniidgklilnaa
