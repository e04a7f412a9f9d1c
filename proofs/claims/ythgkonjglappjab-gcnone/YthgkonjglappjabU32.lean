/-
  Walks of the program: mover and its closure.
-/
import Derived.Test.YthgkonjglappjabU31
set_option linter.unusedVariables false
set_option linter.unusedSimpArgs false
set_option maxRecDepth 100000
namespace Go.Proofs.Ythgkonjglappjab
open Go.RowKit

/-- The memory of the closure: the lengths' slice, the places, their slice, from block b on; the lengths lie in g. -/
structure MV (b g us : Nat) (ln pl : List Int) (w : World) : Prop where
  bb : w.heap[b]? = some (.cells #[.slice (some ⟨g, 0, none⟩) us us] 29 (0, 0))
  bp : w.heap[b + 1]? = some (.cells (iz pl).toArray 3 (0, 0))
  bq : w.heap[b + 2]? = some (.cells #[.slice (some ⟨b + 1, 0, none⟩) us us] 29 (0, 0))
  lg : w.heap[g]? = some (.cells (iz ln).toArray 3 (0, 0))
/-- The row of places: of each object where it goes. -/
structure Plc (os : List Ob) (l : List Bool) (pl : List Int) : Prop where
  len : pl.length = usedL os
  yes : ∀ k, k < os.length → pl.getD (atO os k) 0 = ((toM os l k : Nat) : Int)
section
variable {b g us : Nat} {ln pl : List Int} {w w' : World} {os : List Ob} {l : List Bool}
theorem MV.keep (h : MV b g us ln pl w) (h1 : ∀ k, k = b ∨ k = b + 1 ∨ k = b + 2 ∨ k = g → w'.heap[k]? = w.heap[k]?) : MV b g us ln pl w' :=
  ⟨(h1 b (by omega)).trans h.bb, (h1 _ (by omega)).trans h.bp, (h1 _ (by omega)).trans h.bq, (h1 g (by omega)).trans h.lg⟩
theorem MV.set (h : MV b g us ln pl w) (hg : g < b) (i : Nat) (z : Int) : MV b g us ln (pl.set i z) (w.setCell ⟨b + 1, i, none⟩ (.int .i64 z)) := by
  have hset : ∀ k, k ≠ b + 1 → (w.setCell ⟨b + 1, i, none⟩ (.int .i64 z)).heap[k]? = w.heap[k]? := fun k hne => Below.heap_setCell _ _ _ _ hne
  refine ⟨(hset _ (by omega)).trans h.bb, ?_, (hset _ (by omega)).trans h.bq, (hset _ (by omega)).trans h.lg⟩
  rw [blk_set (i := i) h.bp]
  simp [iz, List.map_set]
theorem mv_start {W1 W2 W3 : World} (hg : w.heap[g]? = some (.cells (iz ln).toArray 3 (0, 0))) (h1 : W1 = w.alloc (.cells #[.slice (some ⟨g, 0, none⟩) us us] 29)) (h2 : W2 = W1.alloc (.cells (madeCells #[.int .i64 0] us) 3)) (h3 : W3 = W2.alloc (.cells #[.slice (some ⟨w.heap.size + 1, 0, none⟩) us us] 29)) :
    MV w.heap.size g us ln (List.replicate us 0) W3 ∧ Below w.heap.size w W3 := by
  have hgl : g < w.heap.size := (Array.getElem?_eq_some_iff.1 hg).1
  have s1 : W1.heap.size = w.heap.size + 1 := by rw [h1]; simp
  have s2 : W2.heap.size = w.heap.size + 2 := by rw [h2]; simp [s1]
  have b1 : Below w.heap.size w W1 := by rw [h1]; exact Ba _ _
  have b2 : Below (w.heap.size + 1) W1 W2 := by rw [h2, ← s1]; exact Ba _ _
  have b3 : Below (w.heap.size + 2) W2 W3 := by rw [h3, ← s2]; exact Ba _ _
  have n1 : W1.heap[w.heap.size]? = some (.cells #[.slice (some ⟨g, 0, none⟩) us us] 29 (0, 0)) := by rw [h1]; exact blk_new _ _ _
  have n2 : W2.heap[w.heap.size + 1]? = some (.cells (madeCells #[.int .i64 0] us) 3 (0, 0)) := by rw [h2, ← s1]; exact blk_new _ _ _
  have n3 : W3.heap[w.heap.size + 2]? = some (.cells #[.slice (some ⟨w.heap.size + 1, 0, none⟩) us us] 29 (0, 0)) := by rw [h3, ← s2]; exact blk_new _ _ _
  have e : madeCells #[.int .i64 0] us = (iz (List.replicate us 0)).toArray := by
    rw [← Array.toArray_toList (xs := madeCells #[.int .i64 0] us), toList_madeCells_one]; simp [iz]
  rw [e] at n2
  have hb : Below w.heap.size w W3 := b1.trans ((b2.mono (by omega)).trans (b3.mono (by omega)))
  exact ⟨⟨((b3.block _ (by omega)).trans (b2.block _ (by omega))).trans n1, (b3.block _ (by omega)).trans n2, n3, (hb.block g hgl).trans hg⟩, hb⟩
theorem none_at {z : Int} (hz : U64 z) (hf : findM os z = none) : isR 2 z = false ∨ ∃ a : Nat, isR 2 z = true ∧ hasR 2 z = (a : Int) ∧ ∀ k, k < os.length → a ≠ atO os k := by
  by_cases h2 : (ofR z).1 = 2
  · right
    have h3 := place_word hz h2
    have hn : 0 ≤ (ofR z).2.1 := by unfold U64 at hz; omega
    refine ⟨(ofR z).2.1.toNat, by unfold isR; simp [h2], by unfold hasR; rw [if_pos h2]; omega, fun k hk e => ?_⟩
    have := fnd_at (os := os) hk (Nat.zero_le k)
    unfold findM at hf
    rw [if_pos h2, show (ofR z).2.1 = ((atO os k : Nat) : Int) by omega, this] at hf
    cases hf
  · left; unfold isR; simp [h2]
set_option maxHeartbeats 8000000 in
theorem move_any (L : Lens os l ln) (P : Plc os l pl) (hus : usedL os ≤ 4194304) (z : Int) (hz : U64 z) (w : World) (h : MV b g (usedL os) ln pl w) :
    Calls Try.prog 21 #[.int .u64 z, .pointer (some ⟨b, 0, none⟩), .pointer (some ⟨b + 2, 0, none⟩)] w fun e w' => e = .returned (.int .u64 (movedM os l z)) ∧ w' = w := by
  have CA := hid (at_any z hz w)
  have cb : w.cell? ⟨b, 0, none⟩ = some (.slice (some ⟨g, 0, none⟩) (usedL os) (usedL os)) := blk_cell h.bb 0
  have cq : w.cell? ⟨b + 2, 0, none⟩ = some (.slice (some ⟨b + 1, 0, none⟩) (usedL os) (usedL os)) := blk_cell h.bq 0
  have hll := L.len
  have hpl := P.len
  cases hf : findM os z with
  | none =>
    have e0 : movedM os l z = z := by unfold movedM; rw [hf]
    rw [e0]
    rcases none_at hz hf with h2 | ⟨a, h2, ha, hne⟩
    · rw [h2] at CA
      obtain ⟨a, ha⟩ : ∃ a, a = hasR 2 z := ⟨_, rfl⟩
      rw [← ha] at CA
      clear ha h L P hf e0 hll hpl
      go_enter Try.func21, Try.ntmps21
      go_wp2_with (go_at_call 17; (with_reducible refine CA.out.mono ?_); rintro e W1 ⟨rfl, hw1⟩; rw [hw1]; clear hw1)
      go_ret
      exact ⟨rfl, rfl⟩
    · rw [h2, ha] at CA
      have hln := L.no a hne
      have cl : a < usedL os → w.cell? ⟨g, a, none⟩ = some (.int .i64 0) := fun hl => by
        have := iz_cell h.lg (i := a) (by omega)
        rw [hln] at this; exact this
      obtain ⟨us, hu⟩ : ∃ x, x = usedL os := ⟨_, rfl⟩
      rw [← hu] at cb cq cl hus
      clear ha h L P hf e0 hll hpl hne hln hu
      by_cases hau : a < us
      · have cl' := cl hau
        clear cl
        go_enter Try.func21, Try.ntmps21
        go_wp2_with (go_at_call 17; (with_reducible refine CA.out.mono ?_); rintro e W1 ⟨rfl, hw1⟩; rw [hw1]; clear hw1)
        go_ret
        exact ⟨rfl, rfl⟩
      · clear cl
        go_enter Try.func21, Try.ntmps21
        go_wp2_with (go_at_call 17; (with_reducible refine CA.out.mono ?_); rintro e W1 ⟨rfl, hw1⟩; rw [hw1]; clear hw1)
        go_ret
        exact ⟨rfl, rfl⟩
  | some k =>
    have hk := (findM_lt hf).1
    have hlt := at_lt hk
    have h2' : (ofR z).1 = 2 := by
      unfold findM at hf
      split at hf
      · assumption
      · cases hf
    have h1 : isR 2 z = true := by unfold isR; simp [h2']
    have h2 : hasR 2 z = (atO os k : Nat) := by unfold hasR; rw [if_pos h2']; exact (findM_lt hf).2.symm
    rw [h1, h2] at CA
    have cl := iz_cell h.lg (i := atO os k) (by omega)
    rw [L.yes k hk] at cl
    have cp := iz_cell h.bp (i := atO os k) (by omega)
    rw [P.yes k hk] at cp
    have htm := toM_le L.ll (i := k) (by omega)
    have CP := hid (ptr_any ((toM os l k : Nat) : Int) (by unfold Z64; omega) w)
    rw [show rightB 2 ((toM os l k : Nat) : Int) 0 = true by unfold rightB; simp; omega] at CP
    have e0 : movedM os l z = if l.getD k false then wordR 2 (toM os l k : Nat) 0 else z := by unfold movedM; rw [hf]
    rw [e0]
    obtain ⟨A, hA⟩ : ∃ x, x = atO os k := ⟨_, rfl⟩
    obtain ⟨m, hm⟩ : ∃ x, x = (os.getD k default).f.length := ⟨_, rfl⟩
    obtain ⟨T, hT⟩ : ∃ x, x = toM os l k := ⟨_, rfl⟩
    obtain ⟨us, hu⟩ : ∃ x, x = usedL os := ⟨_, rfl⟩
    rw [← hA] at CA cl cp hlt htm
    rw [← hm] at cl hlt
    rw [← hT] at cp CP htm ⊢
    rw [← hu] at cb cq hus hlt
    obtain ⟨x, hx⟩ : ∃ x, x = wordR 2 (T : Nat) 0 := ⟨_, rfl⟩
    rw [← hx] at CP ⊢
    cases hb : l.getD k false
    · rw [hb] at cl
      have cl' : w.cell? ⟨g, A, none⟩ = some (.int .i64 0) := cl
      clear h L P hf hk hll hpl h2' h1 h2 hA hm hT hu e0 cl hb hx
      go_enter Try.func21, Try.ntmps21
      go_wp2_with (go_at_call 17; (with_reducible refine CA.out.mono ?_); rintro e W1 ⟨rfl, hw1⟩; rw [hw1]; clear hw1)
      go_ret
      exact ⟨rfl, rfl⟩
    · rw [hb] at cl
      have cl' : w.cell? ⟨g, A, none⟩ = some (.int .i64 (1 + (m : Int))) := by rw [cl]; simp
      clear h L P hf hk hll hpl h2' h1 h2 hA hm hT hu e0 cl hb hx
      have hne : ((1 + (m : Int)) == 0) = false := by simp; omega
      go_enter Try.func21, Try.ntmps21
      go_wp2_with (first
        | (go_at_call 17; (with_reducible refine CA.out.mono ?_); rintro e W1 ⟨rfl, hw1⟩; rw [hw1]; clear hw1)
        | (go_at_call 22; (with_reducible refine CP.out.mono ?_); rintro e W1 ⟨rfl, hw1⟩; rw [hw1]; clear hw1))
      go_ret
      exact ⟨rfl, rfl⟩
set_option maxHeartbeats 8000000 in
theorem mover_any (L : Lens os l ln) (hus : usedL os ≤ 4194304) (w : World) (hr : w.heap[g]? = some (.cells (iz ln).toArray 3 (0, 0))) :
    Calls Try.prog 9 #[.slice (some ⟨g, 0, none⟩) (usedL os) (usedL os)] w fun e w' => ∃ pl, e = .returned (.func (.func 21) #[] #[.pointer (some ⟨w.heap.size, 0, none⟩), .pointer (some ⟨w.heap.size + 1 + 1, 0, none⟩)]) ∧ Plc os l pl ∧ MV w.heap.size g (usedL os) ln pl w' ∧ Below w.heap.size w w' := by
  have hgl : g < w.heap.size := (Array.getElem?_eq_some_iff.1 hr).1
  have HL := hid L
  have HR := hid hr
  obtain ⟨us, hu⟩ : ∃ x, x = usedL os := ⟨_, rfl⟩
  rw [← hu] at hus ⊢
  have HU := hid hu
  have hmk := fun wx => run_make_row' (P := Try.prog) 29 3 (.int .i64 0) 8 Try.underlying29 info_iz rfl .i64 .i64 us (by omega) (by omega) wx
  clear L hr hu
  go_enter Try.func9, Try.ntmps9
  go_wp2_with fail
  clear hmk
  have HST := hid (mv_start (us := us) HR.out rfl rfl rfl)
  generalize ((w.alloc (.cells #[.slice (some ⟨g, 0, none⟩) us us] 29)).alloc (.cells (madeCells #[.int .i64 0] us) 3)).alloc (.cells #[.slice (some ⟨w.heap.size + 1, 0, none⟩) us us] 29) = WS at *
  obtain ⟨g2, hg2⟩ : ∃ g, g = w.heap.size + 1 + 1 := ⟨_, rfl⟩
  rw [← hg2]
  have HG2 : Hid (g2 = w.heap.size + 2) := hg2
  clear hg2
  go_loopw [4, 12] (fun s i wr => ∃ q : Nat, q ≤ us ∧ i = .int .i64 q ∧ ∃ t : Nat, t ≤ us ∧ s = .int .i64 t ∧ Hid (∃ k, Ahead os q k ∧ t = toM os l k) ∧ Hid (∃ pl, pl.length = us ∧ (∀ k, k < os.length → atO os k < q → pl.getD (atO os k) 0 = ((toM os l k : Nat) : Int)) ∧ MV w.heap.size g us ln pl wr ∧ Below w.heap.size w wr)) (fun _ i _ => us - (intOf i).toNat)
  case atStart => exact ⟨0, Nat.zero_le _, rfl, 0, Nat.zero_le _, rfl, ⟨0, Ahead.zero os, (toM_zero os _).symm⟩, _, List.length_replicate, fun k _ h => by omega, HST.out⟩
  case round =>
    clear HST
    obtain ⟨q, hq, rfl, t, ht, rfl, hI, hJ⟩ := hrel
    obtain ⟨pl, hpl, hpy, hmv, hbw⟩ := hJ.out
    by_cases hlt : q < us
    · obtain ⟨k, hA, htk⟩ := hI.out
      obtain ⟨k', hA', htk'⟩ := HL.out.step hA
      have hus' := toM_us HL.out hA'
      have c1 := iz_cell hmv.lg (i := q) (by rw [HL.out.len, ← HU.out]; exact hlt)
      have c2 : wr.cell? ⟨g2, 0, none⟩ = some (.slice (some ⟨w.heap.size + 1, 0, none⟩) us us) := by rw [HG2.out]; exact blk_cell hmv.bq 0
      have c3 := iz_cell hmv.bp (i := q) (by omega)
      have f3 := blk_free hmv.bp q
      have hz := HL.out.z q
      rw [← HU.out] at hz hus'
      rw [← htk] at htk'
      obtain ⟨x, hx⟩ : ∃ x, x = ln.getD q 0 := ⟨_, rfl⟩
      obtain ⟨y, hy⟩ : ∃ x, x = pl.getD q 0 := ⟨_, rfl⟩
      rw [← hx] at c1 htk' hz
      rw [← hy] at c3
      obtain ⟨n, rfl⟩ : ∃ n : Nat, x = (n : Int) := ⟨x.toNat, by omega⟩
      have hn : t + n ≤ us := by omega
      have HK : Hid (∃ k, Ahead os (q + 1) k ∧ t + n = toM os l k) := ⟨k', hA', by omega⟩
      have HN : Hid (∃ pl', pl'.length = us ∧ (∀ k, k < os.length → atO os k < q + 1 → pl'.getD (atO os k) 0 = ((toM os l k : Nat) : Int)) ∧ MV w.heap.size g us ln pl' (wr.setCell ⟨w.heap.size + 1, q, none⟩ (.int .i64 (t : Nat))) ∧ Below w.heap.size w (wr.setCell ⟨w.heap.size + 1, q, none⟩ (.int .i64 (t : Nat)))) := by
        refine ⟨pl.set q (t : Nat), by rw [List.length_set]; exact hpl, fun j hj hjq => ?_, hmv.set hgl q _, hbw.setCell (p := ⟨w.heap.size + 1, q, none⟩) (by show w.heap.size ≤ w.heap.size + 1; omega) _⟩
        rw [getD_set_i (by omega)]
        by_cases e : q = atO os j
        · rw [if_pos e]
          obtain ⟨e2, _⟩ := hA.yes hj e
          rw [e2, htk]
        · rw [if_neg e]
          exact hpy j hj (by omega)
      clear hI hJ hx hy htk' hA hA' htk hus' hz hpl hpy hmv hbw
      go_wp2_with fail
      exact ⟨⟨q + 1, by omega, by go_num, t + n, hn, by go_num, HK, HN⟩, by simp [intOf] <;> omega⟩
    · obtain rfl : q = us := by omega
      have HP : Hid (Plc os l pl) := ⟨hpl.trans HU.out, fun k hk => hpy k hk (by rw [HU.out]; have := at_lt hk; omega)⟩
      have HM := hid hmv
      have HB := hid hbw
      clear hI hJ hpl hpy hmv hbw
      go_wp2_with fail
      go_ret
      exact ⟨pl, by rw [HG2.out]; rfl, HP.out, HM.out, HB.out⟩
end
end Go.Proofs.Ythgkonjglappjab
