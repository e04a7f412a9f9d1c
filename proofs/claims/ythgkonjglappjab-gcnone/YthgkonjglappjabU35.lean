/-
  Walks of the program: what is answered of no heap.
-/
import Derived.Test.YthgkonjglappjabU34
set_option linter.unusedVariables false
set_option linter.unusedSimpArgs false
set_option maxRecDepth 100000
namespace Go.Proofs.Ythgkonjglappjab
open Go.RowKit

theorem nused (w : World) : Calls Try.prog 15 #[.pointer none] w fun e w' => e = .returned (.int .i64 0) ∧ w' = w := by
  go_enter Try.func15, Try.ntmps15
  go_wp2
  go_ret
  exact ⟨rfl, rfl⟩
theorem nis (i : Int) (w : World) : Calls Try.prog 31 #[.pointer none, .int .i64 i] w fun e w' => e = .returned (.bool false) ∧ w' = w := by
  have CU := hid (nused w)
  by_cases h0 : 0 ≤ i
  · have h1 : ¬ (i < 0) := by omega
    go_enter Try.func31, Try.ntmps31
    go_wp2_with (go_at_call 15; (with_reducible refine CU.out.mono ?_); rintro e W1 ⟨rfl, hw1⟩; rw [hw1]; clear hw1)
    go_ret
    refine ⟨?_, rfl⟩
    first
    | rfl
    | (show Ending.returned (Value.bool (decide (i < (0 : Int)))) = _
       rw [decide_eq_false (by omega)])
  · go_enter Try.func31, Try.ntmps31
    go_wp2_with (go_at_call 15; (with_reducible refine CU.out.mono ?_); rintro e W1 ⟨rfl, hw1⟩; rw [hw1]; clear hw1)
    go_ret
    exact ⟨rfl, rfl⟩
theorem nword (i : Int) (w : World) : Calls Try.prog 19 #[.pointer none, .int .i64 i] w fun e w' => e = .returned (.int .u64 0) ∧ w' = w := by
  have CU := hid (nis i w)
  go_enter Try.func19, Try.ntmps19
  go_wp2_with (go_at_call 31; (with_reducible refine CU.out.mono ?_); rintro e W1 ⟨rfl, hw1⟩; rw [hw1]; clear hw1)
  go_ret
  exact ⟨rfl, rfl⟩
theorem ncut (w : World) : Calls Try.prog 24 #[.pointer none, .int .i64 0] w fun e w' => e = .returned (.tuple #[]) ∧ w' = w := by
  have CU := hid (nused w)
  go_enter Try.func24, Try.ntmps24
  go_wp2_with (go_at_call 15; (with_reducible refine CU.out.mono ?_); rintro e W1 ⟨rfl, hw1⟩; rw [hw1]; clear hw1)
  go_end0
  exact ⟨rfl, rfl⟩
theorem nreach {b b2 b3 : Nat} (z : Int) (hz : U64 z) (w : World) (cb : w.cell? ⟨b, 0, none⟩ = some (.pointer none)) :
    Calls Try.prog 16 #[.int .u64 z, .pointer (some ⟨b, 0, none⟩), .pointer (some ⟨b2, 0, none⟩), .pointer (some ⟨b3, 0, none⟩)] w fun e w' => e = .returned (.tuple #[]) ∧ w' = w := by
  have CA := hid (at_any z hz w)
  obtain ⟨a, ha⟩ : ∃ a, a = hasR 2 z := ⟨_, rfl⟩
  have C1 := hid (nword a w)
  have C2 := hid (ghead_any 0 (by unfold U64; omega) w)
  rw [show isHd 0 = false from isR_zero] at C2
  rw [← ha] at CA
  clear ha
  cases h2 : isR 2 z
  · rw [h2] at CA
    clear h2
    go_enter Try.func16, Try.ntmps16
    go_wp2_with (go_at_call 17; (with_reducible refine CA.out.mono ?_); rintro e W1 ⟨rfl, hw1⟩; rw [hw1]; clear hw1)
    (try simp only [Exit.inBlock, Exit.then]); refine bodyPost_ret (results_none rfl _ _ _) rfl ?_
    exact ⟨rfl, rfl⟩
  · rw [h2] at CA
    clear h2
    go_enter Try.func16, Try.ntmps16
    go_wp2_with (first
      | (go_at_call 17; (with_reducible refine CA.out.mono ?_); rintro e W1 ⟨rfl, hw1⟩; rw [hw1]; clear hw1)
      | (go_at_call 19; (with_reducible refine C1.out.mono ?_); rintro e W1 ⟨rfl, hw1⟩; rw [hw1]; clear hw1)
      | (go_at_call 18; (with_reducible refine C2.out.mono ?_); rintro e W1 ⟨rfl, hw1⟩; rw [hw1]; clear hw1))
    (try simp only [Exit.inBlock, Exit.then]); refine bodyPost_ret (results_none rfl _ _ _) rfl ?_
    exact ⟨rfl, rfl⟩
set_option maxHeartbeats 8000000 in
theorem nmark (ro : Option Addr) (nr cr : Nat) (rs : List Int) (w : World) (R : URow w ro nr cr rs) :
    Calls Try.prog 8 #[.pointer none, .slice ro nr cr] w fun e w' => ∃ g, e = .returned (.slice (some ⟨g, 0, none⟩) (usedL []) (usedL [])) ∧ w'.heap[g]? = some (.cells (iz []).toArray 3 (0, 0)) ∧ Below w.heap.size w w' := by
  have HR := hid R
  have hrl := R.len
  have hrf := R.fits
  have hrx := R.most
  unfold maxLen at hrx
  have HRL := hid hrl
  have CU : Hid (∀ wx, Calls Try.prog 15 #[.pointer none] wx fun e w' => e = .returned (.int .i64 ((usedL [] : Nat) : Int)) ∧ w' = wx) := fun wx => nused wx
  obtain ⟨us, hu⟩ : ∃ x, x = usedL [] := ⟨_, rfl⟩
  rw [← hu] at CU ⊢
  have hus : us ≤ 4194304 := by rw [hu]; decide
  have HU := hid hu
  clear R hrl hu
  have hmk := fun wx => run_make_row' (P := Try.prog) 29 3 (.int .i64 0) 8 Try.underlying29 info_iz rfl .i64 .i64 us (by omega) (by omega) wx
  go_enter Try.func8, Try.ntmps8
  go_wp2_with (go_at_call 15; (with_reducible refine (CU.out _).mono ?_); rintro e W1 ⟨rfl, hw1⟩; rw [hw1]; clear hw1)
  clear hmk CU
  have HST : Hid (MX [] w.heap.size w (.pointer none) (List.replicate ([] : List Ob).length false) [] ((((w.alloc (.cells #[.pointer none] 28)).alloc (.cells (madeCells #[.int .i64 0] us) 3)).alloc (.cells #[.slice (some ⟨w.heap.size + 1, 0, none⟩) us us] 29)).alloc (.cells #[.slice none 0 0] 29))) := mx_start HU.out rfl rfl rfl rfl
  generalize ((((w.alloc (.cells #[.pointer none] 28)).alloc (.cells (madeCells #[.int .i64 0] us) 3)).alloc (.cells #[.slice (some ⟨w.heap.size + 1, 0, none⟩) us us] 29)).alloc (.cells #[.slice none 0 0] 29)) = WS at *
  obtain ⟨vs, ln, hL, hM⟩ := HST.out
  have hvs : vs = .slice none 0 0 ∨ ∃ a c, vs = .slice (some a) 0 c := by
    rcases hM.so.2 with ⟨e, _⟩ | ⟨g, cap, cur, e, _⟩
    · exact .inl e
    · exact .inr ⟨_, _, e⟩
  have hln : ln = [] := List.length_eq_zero_iff.1 hL.len
  subst hln
  have cb : WS.cell? ⟨w.heap.size, 0, none⟩ = some (.pointer none) := blk_cell hM.bb 0
  have cs : WS.cell? ⟨w.heap.size + 1 + 1 + 1, 0, none⟩ = some vs := blk_cell hM.bs 0
  have cp : WS.cell? ⟨w.heap.size + 1 + 1, 0, none⟩ = some (.slice (some ⟨w.heap.size + 1, 0, none⟩) us us) := by
    have := blk_cell hM.bp 0
    rw [HU.out]; exact this
  have HM := hid hM
  have HBW := hid hM.bel
  have fin : Hid (∃ g, Ending.returned (.slice (some ⟨w.heap.size + 1, 0, none⟩) us us) = .returned (.slice (some ⟨g, 0, none⟩) us us) ∧ WS.heap[g]? = some (.cells (iz []).toArray 3 (0, 0)) ∧ Below w.heap.size w WS) := ⟨_, rfl, hM.bl, hM.bel⟩
  have CR : Hid (∀ z, U64 z → Calls Try.prog 16 #[.int .u64 z, .pointer (some ⟨w.heap.size, 0, none⟩), .pointer (some ⟨w.heap.size + 1 + 1, 0, none⟩), .pointer (some ⟨w.heap.size + 1 + 1 + 1, 0, none⟩)] WS fun e w' => e = .returned (.tuple #[]) ∧ w' = WS) := fun z hz => nreach z hz WS cb
  obtain ⟨g2, hg2⟩ : ∃ g, g = w.heap.size + 1 + 1 := ⟨_, rfl⟩
  rw [← hg2] at CR cs cp
  rw [← hg2]
  clear hg2 hL hM HST
  go_loopw [19] (fun i wr => ∃ q : Nat, q ≤ nr ∧ i = .int .i64 q ∧ Hid (wr = WS)) (fun i _ => nr - (intOf i).toNat)
  case atStart => exact ⟨0, Nat.zero_le _, rfl, rfl⟩
  case round =>
    obtain ⟨q, hq, rfl, hw⟩ := hrel
    have hw' := hw.out
    subst hw'
    by_cases hlt : q < nr
    · obtain ⟨bb, oo, rfl, hlb, hcc⟩ := HR.out.some (by omega)
      have hck := (HBW.out.cell (p := ⟨bb, oo + q, none⟩) hlb).trans (hcc q hlt)
      have hzu := HR.out.bd _ (getD_in_f (l := rs) (i := q) (by have := HRL.out; omega))
      have C1 := hid (CR.out _ hzu)
      obtain ⟨z, hz⟩ : ∃ z, z = rs.getD q 0 := ⟨_, rfl⟩
      rw [← hz] at hck C1
      clear hcc hzu hz
      go_wp2_with (go_at_call 16; (with_reducible refine C1.out.mono ?_); rintro e W1 ⟨rfl, hw1⟩; rw [hw1]; clear hw1)
      exact ⟨⟨q + 1, by omega, by go_num, trivial⟩, by simp [intOf] <;> omega⟩
    · obtain rfl : q = nr := by omega
      go_wp2_with fail
      go_loopg [10] 1 (fun gk v wy => Hid (wy = wr))
      case atStart => exact rfl
      case round =>
        have hw2 := hrel.out
        subst hw2
        rcases hvs with rfl | ⟨a, c, rfl⟩
        · go_wp2_with fail
          go_ret
          exact fin.out
        · go_wp2_with fail
          go_ret
          exact fin.out
theorem lens_nil : Lens [] [] [] := ⟨rfl, rfl, fun k hk => by simp at hk, fun q _ => by simp⟩
theorem move_nil (z : Int) : movedM [] [] z = z := by
  unfold movedM
  have : findM [] z = none := no_find (fun k hk => by simp at hk)
  rw [this]
theorem plive_nil (ro : Option Addr) (nr cr : Nat) (rs : List Int) (w : World) (R : URow w ro nr cr rs) (hsm : nr ≤ 100) :
    Calls Try.prog 4 #[.pointer none, .slice ro nr cr] w fun e w' => e = .returned (.int .i64 0) ∧ Below w.heap.size w w' := by
  have CM := hid (nmark ro nr cr rs w R)
  obtain ⟨us, hu⟩ : ∃ x, x = usedL [] := ⟨_, rfl⟩
  rw [← hu] at CM
  have hus : us ≤ 0 := by rw [hu]; decide
  clear R hu
  go_enter Try.func4, Try.ntmps4
  go_wp2_with (go_at_call 8; (with_reducible refine CM.out.mono ?_); rintro e W1 ⟨g, rfl, hrow, b1⟩; have HB := hid b1; clear hrow b1)
  go_loopw [5, 12] (fun s i wr => s = .int .i64 0 ∧ i = .int .i64 0 ∧ Hid (wr = W1)) (fun _ _ _ => 0)
  case atStart => exact ⟨rfl, rfl, rfl⟩
  case round =>
    obtain ⟨rfl, rfl, hw⟩ := hrel
    have hw' := hw.out
    subst hw'
    go_wp2_with fail
    go_ret
    exact ⟨rfl, HB.out⟩
theorem nslide {g b1 b2 us : Nat} (hus : us = 0) (w : World) :
    Calls Try.prog 10 #[.pointer none, .slice (some ⟨g, 0, none⟩) us us, .func (.func 21) #[] #[.pointer (some ⟨b1, 0, none⟩), .pointer (some ⟨b2, 0, none⟩)]] w fun e w' => e = .returned (.tuple #[]) ∧ w' = w := by
  have CC := hid (ncut w)
  have hus' : us ≤ 0 := by omega
  clear hus
  go_enter Try.func10, Try.ntmps10
  go_wp2_with fail
  go_loopw [6, 12] (fun s i wr => s = .int .i64 0 ∧ i = .int .i64 0 ∧ Hid (wr = w)) (fun _ _ _ => 0)
  case atStart => exact ⟨rfl, rfl, rfl⟩
  case round =>
    obtain ⟨rfl, rfl, hw⟩ := hrel
    have hw' := hw.out
    subst hw'
    go_wp2_with (go_at_call 24; (with_reducible refine CC.out.mono ?_); rintro e W1 ⟨rfl, hw1⟩; rw [hw1]; clear hw1)
    go_end0
    exact ⟨rfl, rfl⟩
set_option maxHeartbeats 8000000 in
theorem pcollect_nil (ro : Option Addr) (nr cr : Nat) (rs : List Int) (w : World) (R : URow w ro nr cr rs) (hsm : nr ≤ 100) :
    Calls Try.prog 6 #[.pointer none, .slice ro nr cr] w fun e w' => ∃ ao cap, e = .returned (.slice ao nr cap) ∧ URow w' ao nr cap rs ∧ Below w.heap.size w w' := by
  have HR := hid R
  have hrl := R.len
  have hrf := R.fits
  have hrx := R.most
  unfold maxLen at hrx
  have HRL := hid hrl
  have CM := hid (nmark ro nr cr rs w R)
  clear R hrl
  have hus0 : usedL [] = 0 := rfl
  have CV : Hid (∀ (g : Nat) (wx : World), wx.heap[g]? = some (.cells (iz []).toArray 3 (0, 0)) → _) := fun g wx hr => mover_any lens_nil (by decide) wx hr
  obtain ⟨us, hu⟩ : ∃ x, x = usedL [] := ⟨_, rfl⟩
  rw [← hu] at CM CV
  have HU := hid hu
  have CS : Hid (∀ (g b1 b2 : Nat) (wx : World), _) := fun g b1 b2 wx => nslide (g := g) (b1 := b1) (b2 := b2) (hu.trans hus0) wx
  clear hu hus0
  have hmk := fun wx => run_make_row' (P := Try.prog) 22 32 (.int .u64 0) 8 Try.underlying22 info_word rfl .i64 .i64 nr (by omega) (by omega) wx
  go_enter Try.func6, Try.ntmps6
  go_wp2_with (first
    | (go_at_call 8; (with_reducible refine CM.out.mono ?_); rintro e W1 ⟨g, rfl, hrow, b1⟩; have HRW := hid hrow; have HB1 := hid b1; clear hrow b1)
    | (go_at_call 9; (with_reducible refine (CV.out g W1 HRW.out).mono ?_); rintro e W2 ⟨pl, rfl, hP, hV, b2⟩; have HP := hid hP; have HV := hid hV; have HB2 := hid (Bt HB1.out b2); clear hP hV b2)
    | (go_at_call 10; (with_reducible refine (CS.out g _ _ W2).mono ?_); rintro e W3 ⟨rfl, hw3⟩; rw [hw3]; clear hw3))
  clear hmk CM CV CS
  have CMV : Hid (∀ wx, Below W2.heap.size W2 wx → ∀ z, U64 z → Calls Try.prog 21 #[.int .u64 z, .pointer (some ⟨W1.heap.size, 0, none⟩), .pointer (some ⟨W1.heap.size + 1 + 1, 0, none⟩)] wx fun e w' => e = .returned (.int .u64 z) ∧ w' = wx) := fun wx hb z hz => by
    have hv := HV.out
    rw [HU.out] at hv
    have := move_any lens_nil HP.out (by decide) z hz wx (hv.keep (fun k hk => hb.block k (by
      have h1 := (Array.getElem?_eq_some_iff.1 hv.bb).1
      have h2 := (Array.getElem?_eq_some_iff.1 hv.bp).1
      have h3 := (Array.getElem?_eq_some_iff.1 hv.bq).1
      have h4 := (Array.getElem?_eq_some_iff.1 hv.lg).1
      omega)))
    rw [move_nil] at this
    exact this
  have HST : Hid (∃ lo, lo.length = nr ∧ (∀ i, i < 0 → lo.getD i 0 = rs.getD i 0) ∧ (W2.alloc (.cells (madeCells #[.int .u64 0] nr) 32)).heap[W2.heap.size]? = some (.cells (uz lo).toArray 32 (0, 0)) ∧ Below W2.heap.size W2 (W2.alloc (.cells (madeCells #[.int .u64 0] nr) 32))) := ⟨_, List.length_replicate, fun i hi => by omega, uz_made, Ba _ _⟩
  go_loopw [24] (fun i wr => ∃ q : Nat, q ≤ nr ∧ i = .int .i64 q ∧ Hid (∃ lo, lo.length = nr ∧ (∀ i, i < q → lo.getD i 0 = rs.getD i 0) ∧ wr.heap[W2.heap.size]? = some (.cells (uz lo).toArray 32 (0, 0)) ∧ Below W2.heap.size W2 wr)) (fun i _ => nr - (intOf i).toNat)
  case atStart => exact ⟨0, Nat.zero_le _, rfl, HST.out⟩
  case round =>
    clear HST
    obtain ⟨q, hq, rfl, hI⟩ := hrel
    obtain ⟨lo, hll, hlo, hrow, hbw⟩ := hI.out
    clear hI
    by_cases hlt : q < nr
    · obtain ⟨bb, oo, rfl, hlb, hcc⟩ := (HR.out.on (Bt HB2.out hbw)).some (by omega)
      have c1 := hcc q hlt
      have hzu := HR.out.bd _ (getD_in_f (l := rs) (i := q) (by have := HRL.out; omega))
      have C1 := hid (CMV.out wr hbw _ hzu)
      have c2 := uz_cell hrow (i := q) (by omega)
      have f2 := blk_free hrow q
      have HN : Hid (∃ lo', lo'.length = nr ∧ (∀ i, i < q + 1 → lo'.getD i 0 = rs.getD i 0) ∧ (wr.setCell ⟨W2.heap.size, q, none⟩ (.int .u64 (rs.getD q 0))).heap[W2.heap.size]? = some (.cells (uz lo').toArray 32 (0, 0)) ∧ Below W2.heap.size W2 (wr.setCell ⟨W2.heap.size, q, none⟩ (.int .u64 (rs.getD q 0)))) := by
        refine ⟨lo.set q (rs.getD q 0), by rw [List.length_set]; exact hll, fun i hi => ?_, uz_set hrow, hbw.setCell (p := ⟨W2.heap.size, q, none⟩) (Nat.le_refl _) _⟩
        rw [getD_set_i (by omega)]
        by_cases e : q = i
        · rw [if_pos e, e]
        · rw [if_neg e]; exact hlo i (by omega)
      obtain ⟨z, hz⟩ : ∃ z, z = rs.getD q 0 := ⟨_, rfl⟩
      rw [← hz] at c1 C1 HN
      obtain ⟨y, hy⟩ : ∃ z, z = lo.getD q 0 := ⟨_, rfl⟩
      rw [← hy] at c2
      clear hcc hzu hll hlo hrow hbw hz hy
      go_wp2_with (go_at_call 21; (with_reducible refine C1.out.mono ?_); rintro e W4 ⟨rfl, hw1⟩; rw [hw1]; clear hw1)
      exact ⟨⟨q + 1, by omega, by go_num, HN⟩, by simp [intOf] <;> omega⟩
    · obtain rfl : q = nr := by omega
      have hfin : lo = rs := list_eq (by rw [HRL.out]; exact hll) (fun i hi => hlo i (by omega))
      have HUR : Hid (URow wr (some ⟨W2.heap.size, 0, none⟩) q q rs) := by
        rw [hfin] at hrow hll
        exact urow_blk hrow hll (by omega) HR.out.bd
      have HBW := hid (Bt HB2.out hbw)
      clear hll hlo hrow hbw hfin
      go_wp2_with fail
      go_ret
      exact ⟨_, _, rfl, HUR.out, HBW.out⟩
end Go.Proofs.Ythgkonjglappjab
