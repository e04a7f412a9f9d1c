/-
  Kinds of nodes; walks: goodNum, goodText, goodCount, isLetter, Atom, and the document's num, text, kids, Atom.
-/
import Derived.Test.YtfkdpomhojhapaaDoorG3
import Derived.Shelf.Small.Utf8
import Derived.Shelf.Utf8.RuneCount
import Derived.Shelf.Unicode.ValidAny
import Derived.Test.YtfkdpomhojhapaaDoorProg
import Derived.Test.YtfkdpomhojhapaaDoorG2
set_option linter.unusedVariables false
set_option linter.unusedSimpArgs false
namespace Go.Proofs.YtfkdpomhojhapaaDoor
open Go.RowKit

theorem decode_le (s : ByteArray) (i : Nat) : 1 ≤ (Utf8.decode s i).2 ∧ (Utf8.decode s i).2 ≤ 4 := by
  rw [decode_eq]
  repeat' split
  all_goals simp
/-- How many letters a text has; -1: it is no UTF-8. -/
def utfN (s : ByteArray) : Int := if Lib.validD s.data.toList then (Lib.runeCount s : Int) else -1

structure Uv (s : ByteArray) (p c fuel : Nat) : Prop where
  v : Lib.validD s.data.toList = Lib.validD (s.data.toList.drop p)
  c : c + Lib.runeCountFrom s fuel p = Lib.runeCount s
  f : s.size ≤ p + fuel
theorem Uv.bad {s : ByteArray} {p c fuel : Nat} (h : Uv s p c fuel) (hp : p < s.size) (hb : (runeD s p).2 = 0) : utfN s = -1 := by
  have hd : Utf8.decode s p = (65533, 1) := by
    unfold runeD at hb
    split at hb
    · assumption
    · have := (decode_le s p).1; omega
  unfold utfN
  rw [h.v, Lib.validD_step _ (by intro e; have := congrArg List.length e; simp at this; have h2 : s.data.size = s.size := rfl; omega), Lib.decodeL_drop, hd]
  simp
theorem Uv.next {s : ByteArray} {p c fuel : Nat} (h : Uv s p c (fuel + 1)) (hp : p < s.size) (hb : (runeD s p).2 ≠ 0) : Uv s (p + (runeD s p).2) (c + 1) fuel ∧ 1 ≤ (runeD s p).2 ∧ (runeD s p).2 ≤ 4 := by
  have hne : ¬ Utf8.decode s p = (65533, 1) := by
    intro e; unfold runeD at hb; rw [if_pos e] at hb; exact hb rfl
  have e : runeD s p = Utf8.decode s p := by unfold runeD; rw [if_neg hne]
  rw [e]
  have hl := decode_le s p
  refine ⟨⟨?_, ?_, ?_⟩, hl⟩
  · rw [h.v, Lib.validD_step _ (by intro e; have := congrArg List.length e; simp at this; have h2 : s.data.size = s.size := rfl; omega), Lib.decodeL_drop, if_neg, List.drop_drop]
    intro h2
    exact hne (Prod.ext h2.1 h2.2)
  · have := h.c
    unfold Lib.runeCountFrom at this
    rw [if_pos hp] at this
    omega
  · have := h.f; omega
theorem Uv.end_ {s : ByteArray} {p c fuel : Nat} (h : Uv s p c fuel) (hp : ¬ p < s.size) : utfN s = c := by
  unfold utfN
  rw [h.v, List.drop_eq_nil_of_le (by have h2 : s.data.size = s.size := rfl; simp; omega)]
  have := h.c
  rw [Lib.runeCountFrom_end s fuel p hp] at this
  rw [if_pos Lib.validD_nil]; omega

set_option maxHeartbeats 1000000 in
theorem utf_any (s : ByteArray) (w : World) (hs : s.size ≤ 1000000) : Calls Tryd.prog 40 #[.string s] w fun e w' => e = .returned (.int .i64 (utfN s)) ∧ ∃ k, w' = w.drewN k := by
  go_enter Tryd.func40, Tryd.ntmps40
  go_wp2
  go_loopw [3, 4] (fun n i wr => ∃ p c fuel : Nat, i = .int .i64 p ∧ n = .int .i64 c ∧ c ≤ p ∧ p ≤ s.size + 4 ∧ Hid (Uv s p c fuel ∧ ∃ k, wr = w.drewN k)) (fun _ i _ => s.size + 4 - (intOf i).toNat)
  case atStart => exact ⟨0, 0, s.size, rfl, rfl, Nat.le_refl _, by omega, ⟨rfl, by simp [Lib.runeCount], by omega⟩, 0, rfl⟩
  case round =>
    obtain ⟨p, c, fuel, rfl, rfl, hcp, hps, hI⟩ := hrel
    by_cases hlt : p < s.size
    · have HC := hid (rune_any s p wr hlt hs)
      obtain ⟨f, rfl⟩ : ∃ f, fuel = f + 1 := ⟨fuel - 1, by have := hI.out.1.f; omega⟩
      have HN : Hid ((runeD s p).2 ≠ 0 → Uv s (p + (runeD s p).2) (c + 1) f ∧ 1 ≤ (runeD s p).2 ∧ (runeD s p).2 ≤ 4) := hI.out.1.next hlt
      have HBAD : Hid ((runeD s p).2 = 0 → utfN s = -1) := hI.out.1.bad hlt
      obtain ⟨k, hk⟩ : ∃ k, k = (runeD s p).2 := ⟨_, rfl⟩
      unfold RunePost at HC
      rw [← hk] at HC HN HBAD
      clear hk
      generalize (runeD s p).1 = r at *
      by_cases hk0 : k = 0
      · subst hk0
        have hU := hid (HBAD.out rfl)
        go_wp2_with (go_at_call 51; refine HC.out.mono ?_; rintro e w2 ⟨rfl, k2, hw2⟩; rw [hw2])
        go_ret
        obtain ⟨k1, hw⟩ := hI.out.2
        exact ⟨by rw [hU.out]; rfl, k1 + k2, by rw [hw, World.drewN_drewN]⟩
      · obtain ⟨hU, hk1, hk4⟩ := HN.out hk0
        have HU := hid hU
        have ek : ((k : Int) == 0) = false := by simp; omega
        clear hU
        go_wp2_with (go_at_call 51; refine HC.out.mono ?_; rintro e w2 ⟨rfl, k2, hw2⟩; rw [hw2])
        obtain ⟨k1, hw⟩ := hI.out.2
        refine ⟨⟨p + k, c + 1, f, by congr 1, by congr 1, by omega, by omega, HU.out, k1 + k2, by rw [hw, World.drewN_drewN]⟩, by simp [intOf] <;> omega⟩
    · have hU := hid (hI.out.1.end_ hlt)
      go_wp2
      go_ret
      exact ⟨by rw [hU.out]; rfl, hI.out.2⟩

end Go.Proofs.YtfkdpomhojhapaaDoor

namespace Go.Proofs
open Go.Shelf
def Tryd.lays119_ren : Go.Shelf.Ren := ⟨fun | 119 => 52 | n => n, fun | 21 => 21 | 4 => 4 | n => n, fun | n => n⟩
theorem Tryd.lays119 : Go.Proofs.Lays.n119 Tryd.prog Tryd.lays119_ren := {
  mixed := by kernel_rfl
  f119 := Tryd.func52.trans (congrArg some (by kernel_rfl))
  t4 := Tryd.underlying4
  a4 := Tryd.isAgg4
  z4 := Tryd.sizeOf4
  v4 := Tryd.zeroValue4
  t21 := Tryd.underlying21
  a21 := Tryd.isAgg21
  z21 := Tryd.sizeOf21
  v21 := Tryd.zeroValue21 }
def Tryd.lays195_ren : Go.Shelf.Ren := ⟨fun | 195 => 45 | n => n, fun | 9 => 9 | 3 => 3 | 0 => 0 | 4 => 4 | n => n, fun | n => n⟩
theorem Tryd.lays195 : Go.Proofs.Lays.n195 Tryd.prog Tryd.lays195_ren := {
  mixed := by kernel_rfl
  f195 := Tryd.func45.trans (congrArg some (by kernel_rfl))
  t0 := Tryd.underlying0
  a0 := Tryd.isAgg0
  z0 := Tryd.sizeOf0
  v0 := Tryd.zeroValue0
  t3 := Tryd.underlying3
  a3 := Tryd.isAgg3
  z3 := Tryd.sizeOf3
  v3 := Tryd.zeroValue3
  t4 := Tryd.underlying4
  a4 := Tryd.isAgg4
  z4 := Tryd.sizeOf4
  v4 := Tryd.zeroValue4
  t9 := Tryd.underlying9
  a9 := Tryd.isAgg9
  z9 := Tryd.sizeOf9
  v9 := Tryd.zeroValue9 }
def Tryd.lays196_ren : Go.Shelf.Ren := ⟨fun | 196 => 44 | 259 => 55 | n => n, fun | 9 => 9 | 4 => 4 | 3 => 3 | 5 => 5 | 12 => 12 | 119 => 77 | 0 => 0 | 46 => 69 | 139 => 80 | 138 => 79 | 53 => 92 | n => n, fun | 3 => 0 | 4 => 1 | n => n⟩
theorem Tryd.lays196 : Go.Proofs.Lays.n196 Tryd.prog Tryd.lays196_ren := {
  mixed := by kernel_rfl
  f196 := Tryd.func44.trans (congrArg some (by kernel_rfl))
  f259 := Tryd.func55.trans (congrArg some (by kernel_rfl))
  t0 := Tryd.underlying0
  a0 := Tryd.isAgg0
  z0 := Tryd.sizeOf0
  v0 := Tryd.zeroValue0
  t3 := Tryd.underlying3
  a3 := Tryd.isAgg3
  z3 := Tryd.sizeOf3
  v3 := Tryd.zeroValue3
  t4 := Tryd.underlying4
  a4 := Tryd.isAgg4
  z4 := Tryd.sizeOf4
  v4 := Tryd.zeroValue4
  t5 := Tryd.underlying5
  a5 := Tryd.isAgg5
  z5 := Tryd.sizeOf5
  v5 := Tryd.zeroValue5
  t9 := Tryd.underlying9
  a9 := Tryd.isAgg9
  z9 := Tryd.sizeOf9
  v9 := Tryd.zeroValue9
  t12 := Tryd.underlying12
  a12 := Tryd.isAgg12
  z12 := Tryd.sizeOf12
  v12 := Tryd.zeroValue12
  t46 := Tryd.underlying69
  a46 := Tryd.isAgg69
  z46 := Tryd.sizeOf69
  v46 := Tryd.zeroValue69
  t53 := Tryd.underlying92
  a53 := Tryd.isAgg92
  z53 := Tryd.sizeOf92
  v53 := Tryd.zeroValue92
  t119 := Tryd.underlying77
  a119 := Tryd.isAgg77
  z119 := Tryd.sizeOf77
  t138 := Tryd.underlying79
  a138 := Tryd.isAgg79
  z138 := Tryd.sizeOf79
  v138 := Tryd.zeroValue79
  t139 := Tryd.underlying80
  a139 := Tryd.isAgg80
  z139 := Tryd.sizeOf80
  v139 := Tryd.zeroValue80
  g3 := by kernel_rfl
  g4 := by kernel_rfl }
end Go.Proofs

set_option linter.unusedVariables false
set_option linter.unusedSimpArgs false
namespace Go.Proofs.YtfkdpomhojhapaaDoor
open Go.RowKit

def Tabs (w : World) : Prop := Lib.Utf8Tabs (Tryd.lays196_ren.g 3) (Tryd.lays196_ren.g 4) w
theorem Tabs.below {w w' : World} (h : Tabs w) (hb : Below w.heap.size w w') : Tabs w' := Utf8Tabs_below h hb

def atomB (k : Int) : Bool := decide (k = 1) || decide (k = 2) || decide (k = 3) || decide (k = 4) || decide (k = 6) || decide (k = 10) || decide (k = 11)
def numB (k n : Int) : Bool := if k = 2 then decide (n = 0) || decide (n = 1) else if k = 4 then letB n else if k = 13 then decide (0 ≤ n) && decide (n ≤ 2) else decide (n = 0)
def countB (k : Int) (c : Nat) : Bool := if k = 7 ∨ k = 13 then decide (c = 2) else if k = 8 then decide (c ≤ 1024) else if k = 15 ∨ k = 16 then true else decide (c = 0)
def textB (k : Int) (t : ByteArray) : Bool :=
  if k = 3 then printedB t else if k = 5 then Lib.validD t.data.toList && decide (Lib.runeCount t ≤ 1024) else if k = 6 then decide (t.size ≠ 0) && Lib.validD t.data.toList
  else if k = 9 then decide (t.size ≤ 1024) else if k = 12 ∨ k = 15 then Lib.validD t.data.toList else decide (t.size = 0)

set_option maxHeartbeats 1000000 in
theorem atom_any (k : Int) (w : World) : Calls Tryd.prog 46 #[.int .i64 k] w fun e w' => e = .returned (.bool (atomB k)) ∧ w' = w := by
  unfold atomB
  go_enter Tryd.func46, Tryd.ntmps46
  go_wp2
  all_goals (go_ret; refine ⟨?_, rfl⟩; simp_all)

set_option maxHeartbeats 1000000 in
theorem ratom_any (k : Int) (w : World) : Calls Tryd.prog 32 #[.int .i64 k] w fun e w' => e = .returned (.bool (atomB k)) ∧ w' = w := by
  unfold atomB
  go_enter Tryd.func32, Tryd.ntmps32
  go_wp2
  all_goals (go_ret; refine ⟨?_, rfl⟩; simp_all)

theorem isLetter_any (n : Int) (w : World) : Calls Tryd.prog 42 #[.int .i64 n] w fun e w' => e = .returned (.bool (letB n)) ∧ w' = w := by
  by_cases h1 : 0 ≤ n
  · by_cases h2 : n ≤ 1114111
    · have hv : ∀ wx, Calls Tryd.prog 52 #[.int .i32 n] wx fun e w' => e = .returned (.bool (letB n)) ∧ w' = wx := fun wx => by
        refine (Any.utf8_ValidRune Tryd.lays119 n wx).mono ?_
        rintro e w' ⟨rfl, hw⟩
        refine ⟨?_, hw⟩
        congr 2
        unfold letB Lib.validRune
        rw [Bool.eq_iff_iff]
        simp only [Bool.and_eq_true, Bool.or_eq_true, decide_eq_true_eq]
        omega
      have HV := hid hv
      clear hv
      generalize letB n = L at *
      go_enter Tryd.func42, Tryd.ntmps42
      go_wp2_with (go_at_call 52; refine (HV.out _).mono ?_; rintro e wz ⟨rfl, hwz⟩; rw [hwz])
      go_ret
      exact ⟨rfl, rfl⟩
    · have hl : letB n = false := by unfold letB; simp [h2]
      rw [hl]
      go_enter Tryd.func42, Tryd.ntmps42
      go_wp2
      go_ret
      exact ⟨by simp [h2], rfl⟩
  · have hl : letB n = false := by unfold letB; simp [h1]
    rw [hl]
    go_enter Tryd.func42, Tryd.ntmps42
    go_wp2
    go_ret
    exact ⟨by simp [h1], rfl⟩

theorem numB_2 (n : Int) : numB 2 n = (decide (n = 0) || decide (n = 1)) := rfl
theorem numB_4 (n : Int) : numB 4 n = letB n := rfl
theorem numB_13 (n : Int) : numB 13 n = (decide (0 ≤ n) && decide (n ≤ 2)) := rfl
theorem numB_o {k : Int} (n : Int) (h1 : k ≠ 2) (h2 : k ≠ 4) (h3 : k ≠ 13) : numB k n = decide (n = 0) := by unfold numB; simp [h1, h2, h3]
theorem ret_b {a b : Bool} (h : a = b) : Ending.returned (.bool a) = .returned (.bool b) := by rw [h]
theorem beq_dec (a b : Int) : (a == b) = decide (a = b) := by rw [Bool.eq_iff_iff]; simp

set_option maxHeartbeats 1000000 in
theorem goodNum_any (k n : Int) (w : World) : Calls Tryd.prog 33 #[.int .i64 k, .int .i64 n] w fun e w' => e = .returned (.bool (numB k n)) ∧ w' = w := by
  by_cases h2 : k = 2
  · subst h2
    rw [numB_2]
    by_cases hn : n = 0
    · subst hn
      go_enter Tryd.func33, Tryd.ntmps33
      go_wp2
      go_ret
      exact ⟨rfl, rfl⟩
    · have e1 : (n == 0) = false := by simp [hn]
      go_enter Tryd.func33, Tryd.ntmps33
      go_wp2
      go_ret
      exact ⟨ret_b (by rw [beq_dec]; simp [hn]), rfl⟩
  · by_cases h4 : k = 4
    · subst h4
      rw [numB_4]
      have HL := hid (isLetter_any n)
      generalize letB n = L at *
      go_enter Tryd.func33, Tryd.ntmps33
      go_wp2_with (go_at_call 42; refine (HL.out _).mono ?_; rintro e wz ⟨rfl, hwz⟩; rw [hwz])
      go_ret
      exact ⟨rfl, rfl⟩
    · by_cases h13 : k = 13
      · subst h13
        rw [numB_13]
        by_cases hn : 0 ≤ n
        · go_enter Tryd.func33, Tryd.ntmps33
          go_wp2
          go_ret
          exact ⟨ret_b (by simp [hn]), rfl⟩
        · have e1 : decide (0 ≤ n) = false := by simp [hn]
          go_enter Tryd.func33, Tryd.ntmps33
          go_wp2
          go_ret
          exact ⟨ret_b (by simp [e1]), rfl⟩
      · rw [numB_o n h2 h4 h13]
        have e1 : (k == 2) = false := by simp [h2]
        have e2 : (k == 4) = false := by simp [h4]
        have e3 : (k == 13) = false := by simp [h13]
        go_enter Tryd.func33, Tryd.ntmps33
        go_wp2
        go_ret
        exact ⟨ret_b (beq_dec n 0), rfl⟩

theorem countB_2 {k : Int} (c : Nat) (h : k = 7 ∨ k = 13) : countB k c = decide (c = 2) := by unfold countB; rw [if_pos h]
theorem countB_8 (c : Nat) : countB 8 c = decide (c ≤ 1024) := rfl
theorem countB_t {k : Int} (c : Nat) (h : k = 15 ∨ k = 16) : countB k c = true := by
  rcases h with rfl | rfl <;> rfl
theorem countB_o {k : Int} (c : Nat) (h1 : k ≠ 7) (h2 : k ≠ 13) (h3 : k ≠ 8) (h4 : k ≠ 15) (h5 : k ≠ 16) : countB k c = decide (c = 0) := by unfold countB; simp [h1, h2, h3, h4, h5]
theorem beq_nat (a b : Nat) : ((a : Int) == (b : Int)) = decide (a = b) := by rw [Bool.eq_iff_iff, beq_iff_eq, decide_eq_true_eq]; omega

set_option maxHeartbeats 1000000 in
theorem goodCount_any (k : Int) (c : Nat) (hc : c ≤ maxLen) (w : World) : Calls Tryd.prog 35 #[.int .i64 k, .int .i64 c] w fun e w' => e = .returned (.bool (countB k c)) ∧ w' = w := by
  unfold maxLen at hc
  by_cases h1 : k = 7
  · rw [countB_2 c (.inl h1)]
    subst h1
    go_enter Tryd.func35, Tryd.ntmps35
    go_wp2
    go_ret
    exact ⟨ret_b (beq_nat c 2), rfl⟩
  · by_cases h2 : k = 13
    · rw [countB_2 c (.inr h2)]
      subst h2
      go_enter Tryd.func35, Tryd.ntmps35
      go_wp2
      go_ret
      exact ⟨ret_b (beq_nat c 2), rfl⟩
    · have e1 : (k == 7) = false := by simp [h1]
      have e2 : (k == 13) = false := by simp [h2]
      by_cases h3 : k = 8
      · subst h3
        rw [countB_8]
        go_enter Tryd.func35, Tryd.ntmps35
        go_wp2
        go_ret
        exact ⟨ret_b (by rw [Bool.eq_iff_iff]; simp <;> omega), rfl⟩
      · have e3 : (k == 8) = false := by simp [h3]
        by_cases h4 : k = 15
        · rw [countB_t c (.inl h4)]
          subst h4
          go_enter Tryd.func35, Tryd.ntmps35
          go_wp2
          go_ret
          exact ⟨rfl, rfl⟩
        · by_cases h5 : k = 16
          · rw [countB_t c (.inr h5)]
            subst h5
            go_enter Tryd.func35, Tryd.ntmps35
            go_wp2
            go_ret
            exact ⟨rfl, rfl⟩
          · have e4 : (k == 15) = false := by simp [h4]
            have e5 : (k == 16) = false := by simp [h5]
            rw [countB_o c h1 h2 h3 h4 h5]
            go_enter Tryd.func35, Tryd.ntmps35
            go_wp2
            go_ret
            exact ⟨ret_b (beq_nat c 0), rfl⟩

end Go.Proofs.YtfkdpomhojhapaaDoor
