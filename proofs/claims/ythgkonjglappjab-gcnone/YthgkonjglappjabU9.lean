/-
  Walks: same, words.
-/
import Derived.Test.YthgkonjglappjabU8
import Derived.Test.YthgkonjglappjabU34
set_option linter.unusedVariables false
set_option linter.unusedSimpArgs false
set_option maxRecDepth 100000
namespace Go.Proofs.Ythgkonjglappjab
open Go.RowKit

set_option maxHeartbeats 8000000 in
theorem samew_any (ao : Option Addr) (n cap : Nat) (la : List Int) (bo : Option Addr) (m cb : Nat) (lb : List Int) (w : World) (R : URow w ao n cap la) (Q : URow w bo m cb lb) :
    Calls Try.prog 5 #[.slice ao n cap, .slice bo m cb] w fun e w' => e = .returned (.bool (decide (la = lb))) ∧ Below w.heap.size w w' := by
  have HR := hid R
  have HQ := hid Q
  have hn := R.len
  have hf := R.fits
  have hm := R.most
  have hn2 := Q.len
  have hf2 := Q.fits
  have hm2 := Q.most
  unfold maxLen at hm hm2
  clear R Q
  by_cases h1 : n = m
  · subst h1
    have e0 : ((n : Int) == (n : Int)) = true := by simp
    go_enter Try.func5, Try.ntmps5
    go_wp2_with fail
    go_loopw [5] (fun i wr => ∃ q : Nat, q ≤ n ∧ i = .int .i64 q ∧ Hid (∀ k, k < q → la.getD k 0 = lb.getD k 0) ∧ Hid (Below w.heap.size w wr)) (fun i _ => n - (intOf i).toNat)
    case atStart => exact ⟨0, Nat.zero_le _, rfl, fun k hk => by omega, Below.refl _ _⟩
    case round =>
      obtain ⟨q, hq, rfl, hI, hbw⟩ := hrel
      by_cases hlt : q < n
      · obtain ⟨b, o, rfl, hlb, hcc⟩ := HR.out.some (by omega)
        obtain ⟨b2, o2, rfl, hlb2, hcc2⟩ := HQ.out.some (by omega)
        have c1 := (hbw.out.cell (p := ⟨b, o + q, none⟩) hlb).trans (hcc q hlt)
        have c2 := (hbw.out.cell (p := ⟨b2, o2 + q, none⟩) hlb2).trans (hcc2 q hlt)
        have hq0 : (q : Int) < (n : Int) := by omega
        have hq1 : (0 : Int) ≤ (q : Int) := by omega
        obtain ⟨x, hx⟩ : ∃ x, x = la.getD q 0 := ⟨_, rfl⟩
        obtain ⟨y, hy⟩ : ∃ y, y = lb.getD q 0 := ⟨_, rfl⟩
        rw [← hx] at c1
        rw [← hy] at c2
        have HX := hid hx
        have HY := hid hy
        clear hcc hcc2 hx hy
        by_cases hxy : x = y
        · subst hxy
          have ex : (x == x) = true := by simp
          go_wp2_with fail
          go_quiet (fail)
          go_wp2_with fail
          refine ⟨⟨q + 1, by omega, by go_num, fun k hk => ?_, Bt hbw.out (Bd _ _)⟩, by simp [intOf] <;> omega⟩
          by_cases e : k = q
          · subst e; rw [← HX.out, ← HY.out]
          · exact hI.out k (by omega)
        · have ex : (x == y) = false := by simpa using hxy
          have hne : Hid (decide (la = lb) = false) := decide_eq_false (fun e => hxy (by rw [HX.out, HY.out, e]))
          clear hxy
          go_wp2_with fail
          go_quiet (fail)
          go_wp2_with fail
          go_ret
          rw [hne.out]
          exact ⟨rfl, Bt hbw.out (Bd _ _)⟩
      · obtain rfl : q = n := by omega
        have hne : Hid (decide (la = lb) = true) := decide_eq_true (list_eq (by omega) (fun k hk => hI.out k (by omega)))
        go_wp2_with fail
        go_ret
        rw [hne.out]
        exact ⟨rfl, hbw.out⟩
  · have e0 : ((n : Int) == (m : Int)) = false := by simp; omega
    have hne : Hid (decide (la = lb) = false) := decide_eq_false (fun e => h1 (by rw [← hn, ← hn2, e]))
    go_enter Try.func5, Try.ntmps5
    go_wp2_with fail
    go_ret
    rw [hne.out]
    exact ⟨rfl, Below.refl _ _⟩
end Go.Proofs.Ythgkonjglappjab
