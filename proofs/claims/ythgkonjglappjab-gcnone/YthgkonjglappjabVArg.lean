/-
  How deeds that are handed in are opened, over this program.
-/
import Derived.Test.YthgkonjglappjabRows
import Derived.Test.YthgkonjglappjabVM
import Derived.ProofKit
import Derived.OpenShut
import Derived.ShutString
import Derived.ChangeOld
import Derived.Below
import Derived.Lib.SmallJoins
import Derived.Deep.Slices
set_option linter.unusedVariables false
set_option linter.unusedSimpArgs false
set_option maxRecDepth 100000
namespace Go.Proofs.Ythgkonjglappjab
open Go.ChangeShapes Go.WideShapes Go.ChangeAt Go.RowKit Go.Joins Go.Deep

theorem own : ownKnob Try.prog.godebug = none := by kernel_rfl
theorem laidOut : laidOutB Try.prog = true := by kernel_rfl
theorem cellsI : Try.prog.cellsOf 3 = 1 := by kernel_rfl
theorem cellsW : Try.prog.cellsOf 32 = 1 := by kernel_rfl
theorem cellsWs : Try.prog.cellsOf 22 = 1 := by kernel_rfl
theorem cellsB : Try.prog.cellsOf 4 = 1 := by kernel_rfl

theorem addp (b o k : Nat) : Addr.add ⟨b, o, none⟩ k = ⟨b, o + k, none⟩ := by
  unfold Addr.add
  by_cases h : k = 0
  · subst h; simp
  · rw [if_neg h]
theorem plain_of {W : World} {a : Addr} {v : Value} (h : W.cell? a = some v) : ∃ b o, a = ⟨b, o, none⟩ ∧ b < W.heap.size := by
  obtain ⟨bb, o, sp⟩ := a
  have hsp : sp = none := by
    cases sp with
    | none => rfl
    | some k =>
      exfalso
      simp [World.cell?] at h
      split at h <;> simp_all
  subst hsp
  exact ⟨bb, o, rfl, World.block_lt_of_cell? W ⟨bb, o, none⟩ h⟩
theorem add0 (a : Addr) : a.add 0 = a := by simp [Addr.add]

section
variable {H : Type} {enc : TypeId × Value → H} {W : World} {base : Nat} {spare : Nat → Bool} {held : Bool}
theorem words_arg {fuel : Nat} {cs : List Value} {y : DataW H × List MemPlace} (h : DataW.trod enc Try.prog W base spare held fuel 22 cs = some y) : ∃ ao n cap l, cs = [.slice ao n cap] ∧ URow W ao n cap l := by
  rcases open_ints Try.underlying22 Try.underlying32 cellsW h with ⟨rfl, _⟩ | ⟨a, len, cap, zs, rfl, _, hl, hm, hz, _, hcell, hwz⟩
  · exact ⟨none, 0, 0, [], rfl, rfl, Nat.le_refl _, by unfold maxLen; omega, fun _ => rfl, fun _ e => (by cases e), .inl rfl⟩
  · have hzl : len ≤ zs.length := by rw [hz]; split <;> omega
    have hlen : (zs.take len).length = len := by rw [List.length_take, Nat.min_eq_left hzl]
    refine ⟨some a, len, cap, zs.take len, rfl, hlen, hl, hm, fun h => (by cases h), ?_, ?_⟩
    · intro z hz'
      have := bounds_u64 (hwz z (List.mem_of_mem_take hz'))
      unfold U64; omega
    · by_cases h0 : len = 0
      · subst h0; exact .inl (by simp)
      · have hc0 := hcell 0 (by omega)
        rw [add0] at hc0
        obtain ⟨bb, o, rfl, hlt⟩ := plain_of hc0
        refine .inr ⟨bb, o, rfl, hlt, fun i hi => ?_⟩
        rw [hlen] at hi
        have hci := hcell i (by omega)
        rw [addp] at hci
        rw [hci, List.getD_eq_getElem?_getD, List.getD_eq_getElem?_getD, List.getElem?_take, if_pos hi]

end
theorem words_in {H : Type} {enc : TypeId × Value → H} {W : World} {r : Reach} {b0 : Nat} {v : Value} {d : DataW H} {p : List MemPlace} {base : Nat} {spare : TypeId → Bool} {held : Bool}
    (hv : Value.okWide Try.prog W r b0 22 v) (h : DataW.Trod enc Try.prog W base spare held 22 v d p) : ∃ ao n cap l, v = .slice ao n cap ∧ URow W ao n cap l := by
  obtain ⟨a, len, cp, rfl⟩ := okWide_slice Try.underlying22 hv
  obtain ⟨fuel, hf⟩ := h
  obtain ⟨ao, n, cap, l, e, hR⟩ := words_arg hf
  refine ⟨ao, n, cap, l, ?_, hR⟩
  simpa [Value.cells] using e
end Go.Proofs.Ythgkonjglappjab
