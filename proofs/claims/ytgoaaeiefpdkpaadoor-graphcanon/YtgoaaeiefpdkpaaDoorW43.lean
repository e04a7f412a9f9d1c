/-
  Walks: Print, of whatever radix; there is one text of each integer.
-/
import Derived.Test.YtgoaaeiefpdkpaaDoorW14
import Derived.Test.YtgoaaeiefpdkpaaDoorW16
import Derived.Test.YtgoaaeiefpdkpaaDoorW42
set_option linter.unusedVariables false
set_option linter.unusedSimpArgs false
namespace Go.Proofs.YtgoaaeiefpdkpaaDoor
open Go.RowKit

theorem Tr.tail {a : Nat} {t : List Nat} (h : Tr (a :: t)) : Tr t := by
  cases t with
  | nil => exact .inl rfl
  | cons c t =>
    rcases h with h | h
    · cases h
    · refine .inr ?_
      simpa using h
theorem digits_unique {B : Nat} (hB : 1 < B) : ∀ {D D' : List Nat}, Dg B D → Dg B D' → Tr D → Tr D' → val B D = val B D' → D = D'
  | [], [], _, _, _, _, _ => rfl
  | [], b :: t', _, _, _, h4, h => by
    have := h4.ne_zero (B := B) (by omega) (by simp)
    exact absurd h.symm this
  | a :: t, [], _, _, h3, _, h => by
    have := h3.ne_zero (B := B) (by omega) (by simp)
    exact absurd h this
  | a :: t, b :: t', h1, h2, h3, h4, h => by
    have ha : a < B := h1 a (by simp)
    have hb : b < B := h2 b (by simp)
    rw [val_cons, val_cons] at h
    have e1 : a = b := by
      have := congrArg (· % B) h
      simp only [Nat.add_mul_mod_self_left] at this
      rwa [Nat.mod_eq_of_lt ha, Nat.mod_eq_of_lt hb] at this
    subst e1
    have e2 : val B t = val B t' := Nat.eq_of_mul_eq_mul_left (show 0 < B by omega) (by omega)
    rw [digits_unique hB (fun x hx => h1 x (by simp [hx])) (fun x hx => h2 x (by simp [hx])) h3.tail h4.tail e2]
theorem bs_ext {s t : ByteArray} (h : bs s = bs t) : s = t := by
  cases s with | mk a => cases t with | mk b =>
  have : a.toList = b.toList := map_toNat_inj h
  rw [Array.toList_inj.1 this]

/-- What Print answers. -/
def Printed (neg : Bool) (v : Nat) (radix : Int) (s : ByteArray) (en : Int) : Prop :=
  (¬ (2 ≤ radix ∧ radix ≤ 36) ∧ bs s = [] ∧ en = 1) ∨
  ((2 ≤ radix ∧ radix ≤ 36) ∧ en = 0 ∧ ∃ D, Dg radix.toNat D ∧ Tr D ∧ val radix.toNat D = v ∧ bs s = (if D = [] then [48] else (if neg then [45] else []) ++ (D.map chr).reverse))
theorem Printed.one {neg : Bool} {v : Nat} {radix : Int} {s s' : ByteArray} {en en' : Int} (h : Printed neg v radix s en) (h' : Printed neg v radix s' en') : s' = s ∧ en' = en := by
  rcases h with ⟨a, b, c⟩ | ⟨a, b, D, d1, d2, d3, d4⟩ <;> rcases h' with ⟨a', b', c'⟩ | ⟨a', b', D', d1', d2', d3', d4'⟩
  · exact ⟨bs_ext (b'.trans b.symm), c'.trans c.symm⟩
  · exact absurd a' a
  · exact absurd a a'
  · have : D' = D := digits_unique (by omega) d1' d1 d2' d2 (d3'.trans d3.symm)
    subst this
    exact ⟨bs_ext (d4'.trans d4.symm), b'.trans b.symm⟩
def PrPost (w : World) (neg : Bool) (v : Nat) (radix : Int) (e : Ending) (w' : World) : Prop := ∃ s en, e = .returned (.tuple #[.string s, .int .i64 en]) ∧ Printed neg v radix s en ∧ Below w.heap.size w w'

set_option maxHeartbeats 2000000 in
theorem print_all (neg : Bool) (ao : Option Addr) (n cap : Nat) (l : List Nat) (radix : Int) (w : World) (R : Row .u32 B32 w ao n cap l) (g1 : goodB neg l = true) :
    Calls Tryd.prog 58 #[.agg #[.bool neg, .slice ao n cap], .int .i64 radix] w (PrPost w neg (val B32 l) radix) := by
  by_cases hr : 2 ≤ radix ∧ radix ≤ 36
  · obtain ⟨rx, rfl⟩ := Int.eq_ofNat_of_zero_le (by omega : 0 ≤ radix)
    by_cases h0 : n = 0
    · subst h0
      have HC : Hid (∀ wx, Calls Tryd.prog 60 #[.int .i64 rx] wx fun e w' => e = .returned (.bool true) ∧ w' = wx) := fun wx => (isRadix_any rx wx).mono fun e w' ⟨h1, h2⟩ => ⟨by rw [h1]; simp; omega, h2⟩
      have hl : l = [] := List.length_eq_zero_iff.1 R.len
      subst hl
      have HR := hid R
      have G1 := hid g1
      have HRX := hid hr
      clear R g1 hr
      go_enter Tryd.func58, Tryd.ntmps58
      go_wp2_with fail
      refine (HC.out _).mono ?_
      rintro e wx ⟨rfl, hwx⟩
      rw [hwx]
      clear hwx
      go_wp2_with fail
      refine (good_any neg ao 0 cap [] _ (HR.out.below (Ba _ _))).mono ?_
      rintro e w1 ⟨rfl, hb1⟩
      rw [G1.out]
      have X1 := hid ((Box.new 56 w neg ao 0 cap).on hb1)
      have HB1 := hid (Bt (Ba w (.cells #[.bool neg, .slice ao 0 cap] 56)) hb1)
      obtain ⟨c0, c1⟩ := X1.out.c
      clear hb1
      go_wp2
      go_ret2
      exact ⟨_, _, rfl, .inr ⟨HRX.out, rfl, [], Dg.nil _, Tr.nil, rfl, by rw [if_pos rfl]; rfl⟩, HB1.out⟩
    · refine (print_any neg ao n cap l rx w R g1 (by omega) (by omega) h0).mono fun e w' ⟨s, D, h1, h2, h3, h4, h5, h6⟩ => ⟨s, 0, h1, .inr ⟨hr, rfl, D, h2, h3, h4, ?_⟩, h6⟩
      have hD : D ≠ [] := by
        intro e
        subst e
        have := (goodB_tr g1).ne_zero (B := B32) (by decide) (fun e => h0 (by rw [← R.len, e]; rfl))
        exact this h4.symm
      rw [h5, if_neg hD]
  · have HC : Hid (∀ wx, Calls Tryd.prog 60 #[.int .i64 radix] wx fun e w' => e = .returned (.bool false) ∧ w' = wx) := fun wx => (isRadix_any radix wx).mono fun e w' ⟨h1, h2⟩ => ⟨by rw [h1]; simp; omega, h2⟩
    have HR := hid hr
    clear hr R g1
    go_enter Tryd.func58, Tryd.ntmps58
    go_wp2_with (go_at_call 60; refine (HC.out _).mono ?_; rintro e wx ⟨rfl, hwx⟩; rw [hwx]; clear hwx)
    go_ret2
    exact ⟨_, _, rfl, .inl ⟨HR.out, rfl, rfl⟩, Ba _ _⟩

set_option maxHeartbeats 2000000 in
theorem rprint_all (neg : Bool) (ao : Option Addr) (n cap : Nat) (l : List Nat) (radix : Int) (w : World) (R : Row .u32 B32 w ao n cap l) (hn : n ≤ 40) :
    Calls Tryd.prog 40 #[.agg #[.bool neg, .slice ao n cap], .int .i64 radix] w (PrPost w neg (val B32 l) radix) := by
  by_cases hlo : radix < 2
  · have e1 : decide (radix < 2) = true := by simp [hlo]
    have HN : Hid (¬ (2 ≤ radix ∧ radix ≤ 36)) := fun h => by omega
    clear R
    go_enter Tryd.func40, Tryd.ntmps40
    go_wp2
    go_ret2
    exact ⟨_, _, rfl, .inl ⟨HN.out, rfl, rfl⟩, Ba _ _⟩
  by_cases hhi : 36 < radix
  · have e1 : decide (radix < 2) = false := by simp; omega
    have e2 : decide (36 < radix) = true := by simp [hhi]
    have HN : Hid (¬ (2 ≤ radix ∧ radix ≤ 36)) := fun h => by omega
    clear R
    go_enter Tryd.func40, Tryd.ntmps40
    go_wp2
    go_ret2
    exact ⟨_, _, rfl, .inl ⟨HN.out, rfl, rfl⟩, Ba _ _⟩
  obtain ⟨rx, rfl⟩ := Int.eq_ofNat_of_zero_le (by omega : 0 ≤ radix)
  exact (rprint_any neg ao n cap l rx w R hn (by omega) (by omega)).mono fun e w' ⟨s, D, h1, h2, h3, h4, h5, h6⟩ => ⟨s, 0, h1, .inr ⟨by omega, rfl, D, h2, h3, h4, h5⟩, h6⟩

end Go.Proofs.YtgoaaeiefpdkpaaDoor
