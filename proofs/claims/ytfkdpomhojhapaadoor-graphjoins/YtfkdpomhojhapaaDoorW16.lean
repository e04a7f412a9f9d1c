/-
  Walks: the examples of the chapter (awake).
-/
import Derived.Test.YtfkdpomhojhapaaDoorW14
set_option linter.unusedVariables false
set_option linter.unusedSimpArgs false
namespace Go.Proofs.YtfkdpomhojhapaaDoor
open Go.RowKit

/-- A sign and a size as a number. -/
def sgn (neg : Bool) (v : Nat) : Int := if neg then - (v : Int) else v
/-- The value x is the good integer z. -/
def IsInt (w : World) (x : Value) (z : Int) : Prop := ∃ s l, IntIs w x s l ∧ goodB s l = true ∧ z = sgn s (val B32 l)
theorem IsInt.below {w w' : World} {x : Value} {z : Int} (h : IsInt w x z) (hb : Below w.heap.size w w') : IsInt w' x z := by
  obtain ⟨s, l, h1, h2, h3⟩ := h
  exact ⟨s, l, h1.below hb, h2, h3⟩
theorem good_of {neg : Bool} {l : List Nat} (ht : Tr l) (hl : l.length ≤ 40) : goodB (neg && decide (l ≠ [])) l = true := by
  refine goodB_mk ht hl fun h => ?_
  rw [List.length_eq_zero_iff.1 h]; simp
theorem sgn_of {neg : Bool} {l : List Nat} (ht : Tr l) : sgn (neg && decide (l ≠ [])) (val B32 l) = sgn neg (val B32 l) := by
  by_cases h : l = []
  · subst h; cases neg <;> simp [sgn, val]
  · simp [h]
theorem is_mk {w : World} {x : Value} {neg : Bool} {l : List Nat} (hI : IntIs w x (neg && decide (l ≠ [])) l) (ht : Tr l) (hb : ¬ Big (val B32 l)) : IsInt w x (sgn neg (val B32 l)) := by
  obtain ⟨ao, n, cap, rfl, R⟩ := hI
  exact ⟨_, l, ⟨ao, n, cap, rfl, R⟩, good_of ht ((small_len R.dg ht).2 hb), (sgn_of ht).symm⟩
theorem IsInt.open_ {w : World} {x : Value} {z : Int} (h : IsInt w x z) : ∃ s ao n cap l, x = .agg #[.bool s, .slice ao n cap] ∧ Row .u32 B32 w ao n cap l ∧ goodB s l = true ∧ z = sgn s (val B32 l) := by
  obtain ⟨s, l, ⟨ao, n, cap, h1, h2⟩, h3, h4⟩ := h
  exact ⟨s, ao, n, cap, l, h1, h2, h3, h4⟩
theorem good_small {s : Bool} {w : World} {ao : Option Addr} {n cap : Nat} {l : List Nat} (R : Row .u32 B32 w ao n cap l) (g : goodB s l = true) : ¬ Big (val B32 l) := (small_len R.dg (goodB_tr g)).1 (goodB_len g)

theorem sgn_inj {s s' : Bool} {l l' : List Nat} (hg : goodB s l = true) (hg' : goodB s' l' = true) : (sgn s (val B32 l) = sgn s' (val B32 l')) ↔ (s = s' ∧ val B32 l = val B32 l') := by
  have h1 : s = true → val B32 l ≠ 0 := fun hs => (goodB_tr hg).ne_zero (by decide) (fun e => by have := goodB_neg hg (by simp [e]); rw [hs] at this; cases this)
  have h2 : s' = true → val B32 l' ≠ 0 := fun hs => (goodB_tr hg').ne_zero (by decide) (fun e => by have := goodB_neg hg' (by simp [e]); rw [hs] at this; cases this)
  constructor
  · intro h
    cases s <;> cases s' <;> simp [sgn] at * <;> omega
  · rintro ⟨rfl, h⟩
    rw [h]
theorem sameB_of {s s' : Bool} {l l' : List Nat} (hg : goodB s l = true) (hg' : goodB s' l' = true) : sameB s s' l l' = decide (sgn s (val B32 l) = sgn s' (val B32 l')) := by
  unfold sameB
  rw [hg, hg']
  rw [Bool.eq_iff_iff]
  simp only [Bool.and_eq_true, Bool.true_and, beq_iff_eq, decide_eq_true_eq]
  rw [sgn_inj hg hg']

theorem sgn_div (s s' : Bool) (v u : Nat) : sgn (s != s') (v / u) = (sgn s v).tdiv (sgn s' u) := by
  unfold sgn
  cases s <;> cases s' <;> simp [Int.neg_tdiv, Int.tdiv_neg, ← Int.ofNat_tdiv]
theorem sgn_mod (s s' : Bool) (v u : Nat) : sgn s (v % u) = (sgn s v).tmod (sgn s' u) := by
  unfold sgn
  cases s <;> cases s' <;> simp [Int.neg_tmod, Int.tmod_neg, ← Int.ofNat_tmod]

theorem not_big_le {u v : Nat} (h : u ≤ v) (hv : ¬ Big v) : ¬ Big u := by unfold Big at *; omega

end Go.Proofs.YtfkdpomhojhapaaDoor

set_option linter.unusedVariables false
set_option linter.unusedSimpArgs false
namespace Go.Proofs.YtfkdpomhojhapaaDoor
open Go.RowKit

theorem zero_is (w : World) : IsInt w (.agg #[.bool false, .slice none 0 0]) 0 := ⟨false, [], ⟨none, 0, 0, rfl, Row.nil _ _ _ _⟩, rfl, rfl⟩

theorem map_toNat_inj : ∀ {a b : List UInt8}, a.map UInt8.toNat = b.map UInt8.toNat → a = b
  | [], [], _ => rfl
  | [], _ :: _, h => by simp at h
  | _ :: _, [], h => by simp at h
  | x :: a, y :: b, h => by
    simp only [List.map_cons, List.cons.injEq] at h
    rw [UInt8.toNat_inj.1 h.1, map_toNat_inj h.2]
theorem bs_inj {s : ByteArray} {l : List UInt8} (h : bs s = l.map UInt8.toNat) : s.toList = l := by
  rw [Lib.toList_data]
  exact map_toNat_inj h

/-- Of 255 in radix 16. -/
theorem print_ff (x : Value) (w : World) (hx : IsInt w x 255) :
    Calls Tryd.prog 54 #[x, .int .i64 16] w fun e w' => ∃ s : ByteArray, e = .returned (.tuple #[.string s, .int .i64 0]) ∧ s.toList = [102, 102] ∧ Below w.heap.size w w' := by
  obtain ⟨sg, ao, n, cap, l, rfl, R, g, hz⟩ := hx.open_
  have hs : sg = false ∧ val B32 l = 255 := by
    cases sg <;> simp [sgn] at hz ⊢ <;> omega
  obtain ⟨rfl, hv⟩ := hs
  have hn : n ≠ 0 := by
    intro e
    have : l = [] := List.length_eq_zero_iff.1 (by rw [R.len, e])
    subst this
    simp [val] at hv
  refine (print_any false ao n cap l 16 w R g (by omega) (by omega) hn).mono ?_
  rintro e w' ⟨s, D, rfl, hD, hT, hV, hbs, hb⟩
  refine ⟨s, rfl, ?_, hb⟩
  have hD2 : D = [15, 15] := by
    refine eq_of_val (B := 16) (by omega) hD ?_ hT ?_ ?_
    · intro x hx; simp at hx; omega
    · exact .inr (by simp)
    · rw [hV, hv]; rfl
  subst hD2
  apply bs_inj
  rw [hbs]; rfl

theorem parse_m0 (w : World) :
    Calls Tryd.prog 53 #[.string ⟨#[45, 48]⟩, .int .i64 10] w fun e w' => ∃ x, e = .returned (.tuple #[x, .int .i64 0]) ∧ IsInt w' x 0 ∧ Below w.heap.size w w' := by
  refine (parse_any ⟨#[45, 48]⟩ 10 w (by decide)).mono ?_
  rintro e w' ⟨x, en, rfl, hb, h⟩
  have e1 : bs ⟨#[45, 48]⟩ = [45, 48] := rfl
  rw [e1] at h
  have e2 : cutS [45, 48] = (true, [48]) := rfl
  rw [e2] at h
  rcases h with ⟨h, _⟩ | ⟨_, h, _⟩ | ⟨_, _, h⟩
  · exact absurd ⟨by omega, by omega⟩ h
  · exact absurd h (by decide)
  · have e3 : hv (10 : Int).toNat [48] = 0 := rfl
    rw [e3] at h
    rcases h with ⟨h1, rfl, l, hI, ht, hv⟩ | ⟨hbig, _⟩
    · refine ⟨x, rfl, ?_, hb⟩
      have := is_mk hI ht (by rw [hv]; exact h1)
      rw [hv] at this
      exact this
    · exact absurd hbig (not_big_64 0 (by omega))

theorem parse_1a (w : World) :
    Calls Tryd.prog 53 #[.string ⟨#[49, 97]⟩, .int .i64 10] w fun e w' => e = .returned (.tuple #[.agg #[.bool false, .slice none 0 0], .int .i64 12]) ∧ Below w.heap.size w w' := by
  refine (parse_any ⟨#[49, 97]⟩ 10 w (by decide)).mono ?_
  rintro e w' ⟨x, en, rfl, hb, h⟩
  have e1 : bs ⟨#[49, 97]⟩ = [49, 97] := rfl
  rw [e1] at h
  have e2 : cutS [49, 97] = (false, [49, 97]) := rfl
  rw [e2] at h
  rcases h with ⟨h, _⟩ | ⟨_, _, rfl, rfl⟩ | ⟨_, h, _⟩
  · exact absurd ⟨by omega, by omega⟩ h
  · exact ⟨rfl, hb⟩
  · exact absurd h (by decide)

theorem six_on {W wx wy : World} {p q r : Nat} {a0 a1 b0 b1 c0 c1 : Value}
    (h : wx.cell? ⟨p, 0, none⟩ = some a0 ∧ wx.cell? ⟨p, 1, none⟩ = some a1 ∧ wx.cell? ⟨q, 0, none⟩ = some b0 ∧ wx.cell? ⟨q, 1, none⟩ = some b1 ∧ wx.cell? ⟨r, 0, none⟩ = some c0 ∧ wx.cell? ⟨r, 1, none⟩ = some c1 ∧ Below W.heap.size W wx) (hb : Below wx.heap.size wx wy) :
    wy.cell? ⟨p, 0, none⟩ = some a0 ∧ wy.cell? ⟨p, 1, none⟩ = some a1 ∧ wy.cell? ⟨q, 0, none⟩ = some b0 ∧ wy.cell? ⟨q, 1, none⟩ = some b1 ∧ wy.cell? ⟨r, 0, none⟩ = some c0 ∧ wy.cell? ⟨r, 1, none⟩ = some c1 ∧ Below W.heap.size W wy := by
  obtain ⟨h1, h2, h3, h4, h5, h6, h7⟩ := h
  exact ⟨(hb.cell (p := ⟨p, 0, none⟩) (cell_lt h1)).trans h1, (hb.cell (p := ⟨p, 1, none⟩) (cell_lt h1)).trans h2, (hb.cell (p := ⟨q, 0, none⟩) (cell_lt h3)).trans h3, (hb.cell (p := ⟨q, 1, none⟩) (cell_lt h3)).trans h4, (hb.cell (p := ⟨r, 0, none⟩) (cell_lt h5)).trans h5, (hb.cell (p := ⟨r, 1, none⟩) (cell_lt h5)).trans h6, Bt h7 hb⟩
theorem six_bel {W wx : World} {p q r : Nat} {a0 a1 b0 b1 c0 c1 : Value}
    (h : wx.cell? ⟨p, 0, none⟩ = some a0 ∧ wx.cell? ⟨p, 1, none⟩ = some a1 ∧ wx.cell? ⟨q, 0, none⟩ = some b0 ∧ wx.cell? ⟨q, 1, none⟩ = some b1 ∧ wx.cell? ⟨r, 0, none⟩ = some c0 ∧ wx.cell? ⟨r, 1, none⟩ = some c1 ∧ Below W.heap.size W wx) : Below W.heap.size W wx := h.2.2.2.2.2.2

end Go.Proofs.YtfkdpomhojhapaaDoor
