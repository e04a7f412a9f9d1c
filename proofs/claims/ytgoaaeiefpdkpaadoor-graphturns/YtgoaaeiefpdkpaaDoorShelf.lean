/-
  Layings of the library's functions at this dump.
-/
import Derived.Test.YtgoaaeiefpdkpaaDoorG3
import Derived.Shelf.Small.Utf8
import Derived.Shelf.Utf8.RuneCount
import Derived.Shelf.Unicode.ValidAny
import Derived.Test.YtgoaaeiefpdkpaaDoorProg
set_option linter.unusedVariables false
set_option linter.unusedSimpArgs false
namespace Go.Proofs.YtgoaaeiefpdkpaaDoor
open Go.RowKit

theorem decode_le (s : ByteArray) (i : Nat) : 1 ≤ (Utf8.decode s i).2 ∧ (Utf8.decode s i).2 ≤ 4 := by
  rw [decode_eq]
  repeat' split
  all_goals simp
/-- How many letters a text has; -1: it is no UTF-8. -/
def utfN (s : ByteArray) : Int := if Lib.validD s.data.toList then (Lib.runeCount s : Int) else -1

structure Uv (s : ByteArray) (p c fuel : Nat) : Prop where
  v : Lib.validD s.data.toList = Lib.validD (s.data.toList.drop p)
  c : c + Lib.runeCountFrom s fuel p = Lib.runeCount s
  f : s.size ≤ p + fuel
theorem Uv.bad {s : ByteArray} {p c fuel : Nat} (h : Uv s p c fuel) (hp : p < s.size) (hb : (runeD s p).2 = 0) : utfN s = -1 := by
  have hd : Utf8.decode s p = (65533, 1) := by
    unfold runeD at hb
    split at hb
    · assumption
    · have := (decode_le s p).1; omega
  unfold utfN
  rw [h.v, Lib.validD_step _ (by intro e; have := congrArg List.length e; simp at this; have h2 : s.data.size = s.size := rfl; omega), Lib.decodeL_drop, hd]
  simp
theorem Uv.next {s : ByteArray} {p c fuel : Nat} (h : Uv s p c (fuel + 1)) (hp : p < s.size) (hb : (runeD s p).2 ≠ 0) : Uv s (p + (runeD s p).2) (c + 1) fuel ∧ 1 ≤ (runeD s p).2 ∧ (runeD s p).2 ≤ 4 := by
  have hne : ¬ Utf8.decode s p = (65533, 1) := by
    intro e; unfold runeD at hb; rw [if_pos e] at hb; exact hb rfl
  have e : runeD s p = Utf8.decode s p := by unfold runeD; rw [if_neg hne]
  rw [e]
  have hl := decode_le s p
  refine ⟨⟨?_, ?_, ?_⟩, hl⟩
  · rw [h.v, Lib.validD_step _ (by intro e; have := congrArg List.length e; simp at this; have h2 : s.data.size = s.size := rfl; omega), Lib.decodeL_drop, if_neg, List.drop_drop]
    intro h2
    exact hne (Prod.ext h2.1 h2.2)
  · have := h.c
    unfold Lib.runeCountFrom at this
    rw [if_pos hp] at this
    omega
  · have := h.f; omega
theorem Uv.end_ {s : ByteArray} {p c fuel : Nat} (h : Uv s p c fuel) (hp : ¬ p < s.size) : utfN s = c := by
  unfold utfN
  rw [h.v, List.drop_eq_nil_of_le (by have h2 : s.data.size = s.size := rfl; simp; omega)]
  have := h.c
  rw [Lib.runeCountFrom_end s fuel p hp] at this
  rw [if_pos Lib.validD_nil]; omega

set_option maxHeartbeats 1000000 in
theorem utf_any (s : ByteArray) (w : World) (hs : s.size ≤ 1000000) : Calls Tryd.prog 41 #[.string s] w fun e w' => e = .returned (.int .i64 (utfN s)) ∧ ∃ k, w' = w.drewN k := by
  go_enter Tryd.func41, Tryd.ntmps41
  go_wp2
  go_loopw [3, 4] (fun n i wr => ∃ p c fuel : Nat, i = .int .i64 p ∧ n = .int .i64 c ∧ c ≤ p ∧ p ≤ s.size + 4 ∧ Hid (Uv s p c fuel ∧ ∃ k, wr = w.drewN k)) (fun _ i _ => s.size + 4 - (intOf i).toNat)
  case atStart => exact ⟨0, 0, s.size, rfl, rfl, Nat.le_refl _, by omega, ⟨rfl, by simp [Lib.runeCount], by omega⟩, 0, rfl⟩
  case round =>
    obtain ⟨p, c, fuel, rfl, rfl, hcp, hps, hI⟩ := hrel
    by_cases hlt : p < s.size
    · have HC := hid (rune_any s p wr hlt hs)
      obtain ⟨f, rfl⟩ : ∃ f, fuel = f + 1 := ⟨fuel - 1, by have := hI.out.1.f; omega⟩
      have HN : Hid ((runeD s p).2 ≠ 0 → Uv s (p + (runeD s p).2) (c + 1) f ∧ 1 ≤ (runeD s p).2 ∧ (runeD s p).2 ≤ 4) := hI.out.1.next hlt
      have HBAD : Hid ((runeD s p).2 = 0 → utfN s = -1) := hI.out.1.bad hlt
      obtain ⟨k, hk⟩ : ∃ k, k = (runeD s p).2 := ⟨_, rfl⟩
      unfold RunePost at HC
      rw [← hk] at HC HN HBAD
      clear hk
      generalize (runeD s p).1 = r at *
      by_cases hk0 : k = 0
      · subst hk0
        have hU := hid (HBAD.out rfl)
        go_wp2_with (go_at_call 51; refine HC.out.mono ?_; rintro e w2 ⟨rfl, k2, hw2⟩; rw [hw2])
        go_ret
        obtain ⟨k1, hw⟩ := hI.out.2
        exact ⟨by rw [hU.out]; rfl, k1 + k2, by rw [hw, World.drewN_drewN]⟩
      · obtain ⟨hU, hk1, hk4⟩ := HN.out hk0
        have HU := hid hU
        have ek : ((k : Int) == 0) = false := by simp; omega
        clear hU
        go_wp2_with (go_at_call 51; refine HC.out.mono ?_; rintro e w2 ⟨rfl, k2, hw2⟩; rw [hw2])
        obtain ⟨k1, hw⟩ := hI.out.2
        refine ⟨⟨p + k, c + 1, f, by congr 1, by congr 1, by omega, by omega, HU.out, k1 + k2, by rw [hw, World.drewN_drewN]⟩, by simp [intOf] <;> omega⟩
    · have hU := hid (hI.out.1.end_ hlt)
      go_wp2
      go_ret
      exact ⟨by rw [hU.out]; rfl, hI.out.2⟩

end Go.Proofs.YtgoaaeiefpdkpaaDoor

namespace Go.Proofs
open Go.Shelf
def Tryd.lays119_ren : Go.Shelf.Ren := ⟨fun | 119 => 56 | n => n, fun | 21 => 21 | 4 => 4 | n => n, fun | n => n⟩
theorem Tryd.lays119 : Go.Proofs.Lays.n119 Tryd.prog Tryd.lays119_ren := {
  mixed := by kernel_rfl
  f119 := Tryd.func56.trans (congrArg some (by kernel_rfl))
  t4 := Tryd.underlying4
  a4 := Tryd.isAgg4
  z4 := Tryd.sizeOf4
  v4 := Tryd.zeroValue4
  t21 := Tryd.underlying21
  a21 := Tryd.isAgg21
  z21 := Tryd.sizeOf21
  v21 := Tryd.zeroValue21 }
def Tryd.lays195_ren : Go.Shelf.Ren := ⟨fun | 195 => 55 | n => n, fun | 9 => 9 | 3 => 3 | 0 => 0 | 4 => 4 | n => n, fun | n => n⟩
theorem Tryd.lays195 : Go.Proofs.Lays.n195 Tryd.prog Tryd.lays195_ren := {
  mixed := by kernel_rfl
  f195 := Tryd.func55.trans (congrArg some (by kernel_rfl))
  t0 := Tryd.underlying0
  a0 := Tryd.isAgg0
  z0 := Tryd.sizeOf0
  v0 := Tryd.zeroValue0
  t3 := Tryd.underlying3
  a3 := Tryd.isAgg3
  z3 := Tryd.sizeOf3
  v3 := Tryd.zeroValue3
  t4 := Tryd.underlying4
  a4 := Tryd.isAgg4
  z4 := Tryd.sizeOf4
  v4 := Tryd.zeroValue4
  t9 := Tryd.underlying9
  a9 := Tryd.isAgg9
  z9 := Tryd.sizeOf9
  v9 := Tryd.zeroValue9 }
def Tryd.lays196_ren : Go.Shelf.Ren := ⟨fun | 196 => 54 | 259 => 59 | n => n, fun | 9 => 9 | 4 => 4 | 3 => 3 | 5 => 5 | 12 => 12 | 119 => 80 | 0 => 0 | 46 => 70 | 139 => 83 | 138 => 82 | 53 => 94 | n => n, fun | 3 => 0 | 4 => 1 | n => n⟩
theorem Tryd.lays196 : Go.Proofs.Lays.n196 Tryd.prog Tryd.lays196_ren := {
  mixed := by kernel_rfl
  f196 := Tryd.func54.trans (congrArg some (by kernel_rfl))
  f259 := Tryd.func59.trans (congrArg some (by kernel_rfl))
  t0 := Tryd.underlying0
  a0 := Tryd.isAgg0
  z0 := Tryd.sizeOf0
  v0 := Tryd.zeroValue0
  t3 := Tryd.underlying3
  a3 := Tryd.isAgg3
  z3 := Tryd.sizeOf3
  v3 := Tryd.zeroValue3
  t4 := Tryd.underlying4
  a4 := Tryd.isAgg4
  z4 := Tryd.sizeOf4
  v4 := Tryd.zeroValue4
  t5 := Tryd.underlying5
  a5 := Tryd.isAgg5
  z5 := Tryd.sizeOf5
  v5 := Tryd.zeroValue5
  t9 := Tryd.underlying9
  a9 := Tryd.isAgg9
  z9 := Tryd.sizeOf9
  v9 := Tryd.zeroValue9
  t12 := Tryd.underlying12
  a12 := Tryd.isAgg12
  z12 := Tryd.sizeOf12
  v12 := Tryd.zeroValue12
  t46 := Tryd.underlying70
  a46 := Tryd.isAgg70
  z46 := Tryd.sizeOf70
  v46 := Tryd.zeroValue70
  t53 := Tryd.underlying94
  a53 := Tryd.isAgg94
  z53 := Tryd.sizeOf94
  v53 := Tryd.zeroValue94
  t119 := Tryd.underlying80
  a119 := Tryd.isAgg80
  z119 := Tryd.sizeOf80
  t138 := Tryd.underlying82
  a138 := Tryd.isAgg82
  z138 := Tryd.sizeOf82
  v138 := Tryd.zeroValue82
  t139 := Tryd.underlying83
  a139 := Tryd.isAgg83
  z139 := Tryd.sizeOf83
  v139 := Tryd.zeroValue83
  g3 := by kernel_rfl
  g4 := by kernel_rfl }
end Go.Proofs
