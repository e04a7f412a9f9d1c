/-
  Walks: Clone; of the document's answer: trim, size, bytes.
-/
import Derived.Test.YtgoaaeiefpdkpaaDoorOnto
import Derived.Test.YtgoaaeiefpdkpaaDoorApp
import Derived.Lib.SliceRun
set_option linter.unusedVariables false
set_option linter.unusedSimpArgs false
namespace Go.Proofs.YtgoaaeiefpdkpaaDoor
open Go.RowKit

theorem info_u32 : (Tryd.prog.info? 77).map (fun i => (i.zero, i.size, i.bytes)) = some (some (.int .u32 0), 1, 4) := by kernel_rfl
theorem info_u8 : (Tryd.prog.info? 5).map (fun i => (i.zero, i.size, i.bytes)) = some (some (.int .u8 0), 1, 1) := by kernel_rfl

set_option maxHeartbeats 400000 in
theorem clone_any (ao : Option Addr) (n cap : Nat) (l : List Nat) (w : World) (R : Row .u32 B32 w ao n cap l) (hs : n ≤ 1000) :
    Calls Tryd.prog 66 #[.slice ao n cap] w fun e w' => ∃ ao' cap', e = .returned (.slice ao' n cap') ∧ Own .u32 77 B32 w.heap.size w' ao' n cap' l ∧ Below w.heap.size w w' := by
  have heq := fun wx => Lib.run_eql_slice_nil (P := Tryd.prog) wx 54 77 ao n cap 0 0 Tryd.underlying54
  have HD : Hid (Dg B32 l) := R.dg
  cases ao with
  | none =>
    have hc := R.nil_ rfl
    subst hc
    have hm : n = 0 := by have := R.fits; omega
    subst hm
    have hl : l = [] := List.length_eq_zero_iff.1 R.len
    subst hl
    simp only [Option.isNone_none] at heq
    clear R HD
    go_enter Tryd.func66, Tryd.ntmps66
    go_wp2
    go_ret
    exact ⟨none, 0, rfl, Own.nil _ _ _ _ _ _, Below.refl _ _⟩
  | some a =>
    simp only [Option.isNone_some] at heq
    have HR : Hid (Row .u32 B32 w (some a) n cap l) := R
    clear R
    go_enter Tryd.func66, Tryd.ntmps66
    go_wp2_with (at_builtin; refine appRow rfl _ _ 54 rfl w.heap.size 77 .u32 4 (by decide) Tryd.underlying54 info_u32 _ 0 [] rfl (own0 w .u32 77) B32 (some a) n cap l rfl (HR.out.below (Ba _ _)) (by omega) (by simp) ?_; intro v' w1 hown hbel)
    simp only [Nat.zero_add, List.nil_append] at hown
    have hb := Bb (Ba w (.cells #[] 77)) hbel (Nat.le_refl _)
    have HO := hid hown
    have HB := hid hb
    clear hown hbel hb
    go_wp2
    go_ret
    obtain ⟨ao', cap', rfl, hO⟩ := own_of HO.out HD.out
    exact ⟨ao', cap', rfl, hO, HB.out⟩

set_option maxHeartbeats 400000 in
theorem rtrim_any (ao : Option Addr) (n cap : Nat) (l : List Nat) (w : World) (R : Row .u8 256 w ao n cap l) (hs : n ≤ 1000) :
    Calls Tryd.prog 50 #[.slice ao n cap] w fun e w' => ∃ m ao' cap', m ≤ n ∧ e = .returned (.slice ao' m cap') ∧ Own .u8 5 256 w.heap.size w' ao' m cap' (l.take m) ∧ Tr (l.take m) ∧ val 256 (l.take m) = val 256 l ∧ Below w.heap.size w w' := by
  have HR : Hid (Row .u8 256 w ao n cap l) := R
  obtain ⟨hn, hcap, hmax, _, hdg, hrd⟩ := R
  unfold maxLen at hmax
  have HN : Hid (l.length = n) := hn
  have HD : Hid (Dg 256 l) := hdg
  clear hn hdg
  go_enter Tryd.func50, Tryd.ntmps50
  go_wp2
  go_loop [3] (fun t => ∃ m : Nat, m ≤ n ∧ t = .int .i64 m ∧ Hid (val 256 (l.take m) = val 256 l)) (fun t => (intOf t).toNat)
  case atStart => exact ⟨n, Nat.le_refl _, rfl, by unfold Hid; rw [List.take_of_length_le (by rw [HN.out]; exact Nat.le_refl _)]⟩
  case round =>
    obtain ⟨m, hm, rfl, hv⟩ := hrel
    have HR2 : Hid (Row .u8 256 (w.alloc (.cells #[] 5)) ao m cap (l.take m)) := (HR.out.take hm cap (by omega) (Nat.le_refl _)).below (Ba _ _)
    by_cases hz : m = 0
    · subst hz
      go_wp2_with (at_builtin; refine appRow rfl _ _ 69 rfl w.heap.size 5 .u8 1 (by decide) Tryd.underlying69 info_u8 _ 0 [] rfl (own0 w .u8 5) 256 ao 0 cap (l.take 0) rfl HR2.out (by omega) (by simp) ?_; intro v' w1 hown hbel)
      simp only [Nat.zero_add, List.nil_append] at hown
      have hb := Bb (Ba w (.cells #[] 5)) hbel (Nat.le_refl _)
      have HO := hid hown
      have HB := hid hb
      clear hown hbel hb
      go_wp2
      go_ret
      obtain ⟨ao', cap', rfl, hO⟩ := own_of HO.out (HD.out.take 0)
      exact ⟨0, Nat.zero_le _, ao', cap', rfl, hO, .inl (by simp), hv.out, HB.out⟩
    · obtain ⟨b, o, rfl, hl, hc⟩ := hrd.some (by rw [HN.out]; omega)
      have hc1 := hc (m - 1) (by rw [HN.out]; omega)
      obtain ⟨d, hd⟩ : ∃ d, d = l.getD (m - 1) 0 := ⟨_, rfl⟩
      rw [← hd] at hc1
      have H1 : Hid (d = l.getD (m - 1) 0) := hd
      clear hd hc hrd
      have hpos : (0 : Int) < m := by omega
      by_cases hd0 : d = 0
      · subst hd0
        go_wp2
        go_round
        case rel => exact ⟨m - 1, by omega, by go_num, by
          unfold Hid
          rw [← hv.out]
          have := val_take_zero 256 l (m - 1) (by rw [HN.out]; omega) H1.out.symm
          rw [show m - 1 + 1 = m by omega] at this
          exact this.symm⟩
        case measure => simp [intOf]; omega
      · have hne : ((d : Int) == 0) = false := by simp; omega
        go_wp2_with (at_builtin; refine appRow rfl _ _ 69 rfl w.heap.size 5 .u8 1 (by decide) Tryd.underlying69 info_u8 _ 0 [] rfl (own0 w .u8 5) 256 _ m cap (l.take m) rfl HR2.out (by omega) (by simp) ?_; intro v' w1 hown hbel)
        simp only [Nat.zero_add, List.nil_append] at hown
        have hb := Bb (Ba w (.cells #[] 5)) hbel (Nat.le_refl _)
        have HO := hid hown
        have HB := hid hb
        clear hown hbel hb
        go_wp2
        go_ret
        obtain ⟨ao', cap', rfl, hO⟩ := own_of HO.out (HD.out.take m)
        exact ⟨m, hm, ao', cap', rfl, hO, Tr.take_of (by rw [HN.out]; exact hm) (.inr (by rw [← H1.out]; exact hd0)), hv.out, HB.out⟩

end Go.Proofs.YtgoaaeiefpdkpaaDoor
