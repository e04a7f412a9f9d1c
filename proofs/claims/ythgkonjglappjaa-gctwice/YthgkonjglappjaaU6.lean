/-
  Walks: few, says.
-/
import Derived.Test.YthgkonjglappjaaU5
import Derived.Test.YthgkonjglappjaaV10
import Derived.Deep.QuietTactic
import Derived.BigQuiet
set_option linter.unusedVariables false
set_option linter.unusedSimpArgs false
set_option maxRecDepth 100000
namespace Go.Proofs.Ythgkonjglappjaa
open Go.RowKit

def fewG (xs : List Oj) (fs : List Fd) : Bool := decide (xs.length ≤ 60) && decide (fs.length ≤ 60) && xs.all (fun x => decide (x.l.length ≤ 30))
theorem few_parts_g {xs : List Oj} {fs : List Fd} (h : fewG xs fs = true) : xs.length ≤ 60 ∧ fs.length ≤ 60 ∧ ∀ x ∈ xs, x.l.length ≤ 30 := by
  unfold fewG at h
  simp only [Bool.and_eq_true, decide_eq_true_eq] at h
  exact ⟨h.1.1, h.1.2, fun x hx => of_decide_eq_true (List.all_eq_true.1 h.2 x hx)⟩
set_option maxHeartbeats 8000000 in
theorem fewg_any (ao : Option Addr) (n cap : Nat) (xs : List Oj) (fo : Option Addr) (m fc : Nat) (fs : List Fd) (w : World) (R : ORow w ao n cap xs) (Q : FRow w fo m fc fs) :
    Calls Try.prog 9 #[.slice ao n cap, .slice fo m fc] w fun e w' => e = .returned (.bool (fewG xs fs)) ∧ w' = w := by
  have HR := hid R
  have hn := R.len
  have hf := R.fits
  have hm := R.most
  have hn2 := Q.len
  have hf2 := Q.fits
  have hm2 := Q.most
  unfold maxLen at hm hm2
  clear R Q
  by_cases h1 : 60 < n
  · have hfw : Hid (fewG xs fs = false) := by unfold Hid fewG; rw [decide_eq_false (by omega)]; rfl
    go_enter Try.func9, Try.ntmps9
    go_wp2_with fail
    go_ret
    rw [hfw.out]
    exact ⟨rfl, rfl⟩
  by_cases h2 : 60 < m
  · have hfw : Hid (fewG xs fs = false) := by unfold Hid fewG; rw [decide_eq_false (by omega : ¬ fs.length ≤ 60)]; simp
    go_enter Try.func9, Try.ntmps9
    go_wp2_with fail
    go_ret
    rw [hfw.out]
    exact ⟨rfl, rfl⟩
  go_enter Try.func9, Try.ntmps9
  go_wp2_with fail
  go_loop [5] (fun i => ∃ q : Nat, q ≤ n ∧ i = .int .i64 q ∧ Hid (∀ k, k < q → (xs.getD k default).l.length ≤ 30)) (fun i => n - (intOf i).toNat)
  case atStart => exact ⟨0, Nat.zero_le _, rfl, fun k hk => by omega⟩
  case round =>
    obtain ⟨q, hq, rfl, hI⟩ := hrel
    by_cases hlt : q < n
    · obtain ⟨b, o, rfl, hlb, hcc⟩ := HR.out.some (by omega)
      obtain ⟨d0, fa, fn, fcc, d1, hF⟩ := hcc q hlt
      have hfl := hF.len
      have hff := hF.fits
      have hfm := hF.most
      unfold maxLen at hfm
      clear hcc hF d0
      by_cases h3 : 30 < fn
      · have hfw : Hid (fewG xs fs = false) := by
          unfold Hid
          rw [← Bool.not_eq_true]
          intro e
          have := (few_parts_g e).2.2 _ (getD_in_oj (l := xs) (i := q) (by omega))
          omega
        clear hfl
        go_wp2_with fail
        go_ret
        rw [hfw.out]
        exact ⟨rfl, rfl⟩
      · have HFL := hid hfl
        clear hfl
        go_wp2_with fail
        refine ⟨⟨q + 1, by omega, by go_num, fun k hk => ?_⟩, by simp [intOf] <;> omega⟩
        by_cases e : k = q
        · subst e; rw [HFL.out]; omega
        · exact hI.out k (by omega)
    · obtain rfl : q = n := by omega
      have hfw : Hid (fewG xs fs = true) := by
        unfold Hid fewG
        rw [decide_eq_true (by omega), decide_eq_true (by omega)]
        simp only [Bool.and_self, Bool.true_and, List.all_eq_true, decide_eq_true_eq]
        intro x hx
        obtain ⟨k, hk, rfl⟩ := List.mem_iff_getElem.1 hx
        have := hI.out k (by omega)
        rw [List.getD_eq_getElem?_getD, List.getElem?_eq_getElem hk] at this
        exact this
      go_wp2_with fail
      go_ret
      rw [hfw.out]
      exact ⟨rfl, rfl⟩
set_option maxHeartbeats 8000000 in
theorem says_any (f : Fd) (hf : FOk f) (ga : Nat) (aa : Option Addr) (na ca : Nat) (ats : List Int) (w : World) (hc : w.cell? ⟨ga, 0, none⟩ = some (.slice aa na ca)) (hU : URow w aa na ca ats) (hsm : na ≤ 1000000) :
    Calls Try.prog 31 #[.agg #[.bool f.is, .int .i64 f.to, .int .u64 f.w], .pointer (some ⟨ga, 0, none⟩)] w fun e w' => e = .returned (.int .u64 (saysM ats f)) ∧ Below w.heap.size w w' := by
  have hto := hf.to
  have hw := hf.w
  have HW := hid hw
  unfold Z64 at hto
  have hlen := hU.len
  have hfit := hU.fits
  have hmo := hU.most
  unfold maxLen at hmo
  have HU := hid hU
  have HSY : Hid (saysM ats f = if f.is = true ∧ 0 < ats.length then ats.getD (roundI f.to ats.length) 0 else if isHd f.w then 0 else f.w) := rfl
  clear hf hU
  obtain ⟨is, to, fw⟩ := f
  simp only at hto hw HW HSY ⊢
  have HB := hid (Ba w (.cells #[.bool is, .int .i64 to, .int .u64 fw] 64))
  have hx := blk_new w #[.bool is, .int .i64 to, .int .u64 fw] 64
  have d0 : (w.alloc (.cells #[.bool is, .int .i64 to, .int .u64 fw] 64)).cell? ⟨w.heap.size, 0, none⟩ = some (.bool is) := blk_cell hx 0
  have d1 : (w.alloc (.cells #[.bool is, .int .i64 to, .int .u64 fw] 64)).cell? ⟨w.heap.size, 1, none⟩ = some (.int .i64 to) := blk_cell hx 1
  have d2 : (w.alloc (.cells #[.bool is, .int .i64 to, .int .u64 fw] 64)).cell? ⟨w.heap.size, 2, none⟩ = some (.int .u64 fw) := blk_cell hx 2
  have dc := (HB.out.cell (p := ⟨ga, 0, none⟩) (cell_lt hc)).trans hc
  have HX := hid hx
  clear hx hc
  have CI := hid (ishead_any fw HW.out)
  unfold isHd at HSY
  have tail : Hid (¬ (is = true ∧ 0 < ats.length) → True) := fun _ => trivial
  by_cases h1 : is = true ∧ 0 < na
  · obtain ⟨rfl, h0⟩ := h1
    rw [if_pos ⟨rfl, by omega⟩] at HSY
    obtain ⟨hr1, hr2⟩ := round_at (n := na) (by omega) to
    obtain ⟨b, o, rfl, hlb, hcc⟩ := (HU.out.on HB.out).some (by omega)
    rw [hlen] at HSY
    obtain ⟨q, hq⟩ : ∃ q, q = roundI to na := ⟨_, rfl⟩
    rw [← hq] at hr1 hr2 HSY
    have htm : (Int.tmod to na).natAbs < na := by rw [Int.natAbs_tmod]; exact Nat.mod_lt _ (by omega)
    have hcq := hcc q hr1
    obtain ⟨z, hz⟩ : ∃ z, z = ats.getD q 0 := ⟨_, rfl⟩
    rw [← hz] at hcq HSY
    have hnz : (na : Int) ≠ 0 := by omega
    have hw1 : IntKind.i64.wrap (Int.tmod to (na : Int)) = Int.tmod to (na : Int) := by rw [IntKind.wrap_i64]; omega
    have hw2 : IntKind.i64.wrap (Int.tmod to (na : Int) + (na : Int)) = Int.tmod to (na : Int) + (na : Int) := by rw [IntKind.wrap_i64]; omega
    have hw3 : wrap64 (Int.tmod to (na : Int)) = Int.tmod to (na : Int) := by unfold wrap64; omega
    have hw4 : wrap64 (Int.tmod to (na : Int) + (na : Int)) = Int.tmod to (na : Int) + (na : Int) := by unfold wrap64; omega
    have hq1 : ¬ (q : Int) < 0 := by omega
    have hq2 : ¬ (na : Int) ≤ (q : Int) := by omega
    have hq3 : (0 : Int) ≤ (q : Int) := by omega
    have hq4 : (q : Int) < (na : Int) := by omega
    clear hq hz hcc
    go_enter Try.func31, Try.ntmps31
    go_wp2_with fail
    go_quiet (fail)
    go_wp2
    go_ret
    rw [HSY.out]
    exact ⟨rfl, Bt HB.out (Bd _ _)⟩
  · rw [if_neg (by rw [hlen]; exact h1)] at HSY
    obtain ⟨hb, hhb⟩ : ∃ b, b = decide ((ofR fw).1 = 8) := ⟨_, rfl⟩
    rw [← hhb] at CI HSY
    clear hhb
    cases is
    · cases hb
      · go_enter Try.func31, Try.ntmps31
        go_wp2_with (go_at_call 32; (with_reducible refine (CI.out _).mono ?_); rintro e W3 ⟨rfl, b3⟩; have d2' := (b3.cell (p := ⟨w.heap.size, 2, none⟩) (cell_lt d2)).trans d2)
        go_ret
        rw [HSY.out]
        exact ⟨rfl, Bt HB.out b3⟩
      · go_enter Try.func31, Try.ntmps31
        go_wp2_with (go_at_call 32; (with_reducible refine (CI.out _).mono ?_); rintro e W3 ⟨rfl, b3⟩)
        go_ret
        rw [HSY.out]
        exact ⟨rfl, Bt HB.out b3⟩
    · obtain rfl : na = 0 := by
        by_cases e : na = 0
        · exact e
        · exact absurd ⟨rfl, by omega⟩ h1
      cases hb
      · go_enter Try.func31, Try.ntmps31
        go_wp2_with (go_at_call 32; (with_reducible refine (CI.out _).mono ?_); rintro e W3 ⟨rfl, b3⟩; have d2' := (b3.cell (p := ⟨w.heap.size, 2, none⟩) (cell_lt d2)).trans d2)
        go_ret
        rw [HSY.out]
        exact ⟨rfl, Bt HB.out b3⟩
      · go_enter Try.func31, Try.ntmps31
        go_wp2_with (go_at_call 32; (with_reducible refine (CI.out _).mono ?_); rintro e W3 ⟨rfl, b3⟩)
        go_ret
        rw [HSY.out]
        exact ⟨rfl, Bt HB.out b3⟩
end Go.Proofs.Ythgkonjglappjaa
