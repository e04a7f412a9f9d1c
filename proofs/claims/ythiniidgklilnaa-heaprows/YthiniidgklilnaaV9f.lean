/-
  The program's heap: Objects.
-/
import Derived.Test.YthiniidgklilnaaV9e
set_option linter.unusedVariables false
set_option linter.unusedSimpArgs false
set_option maxRecDepth 100000
namespace Go.Proofs.Ythiniidgklilnaa
open Go.RowKit

theorem ptrs_len (os : List Ob) : (ptrsL os).length = os.length := by unfold ptrsL; simp
theorem ptrs_at {os : List Ob} {k : Nat} (h : k < os.length) : (ptrsL os).take (k + 1) = (ptrsL os).take k ++ [wordR 2 (atO os k : Nat) 0] := by
  rw [List.take_succ_eq_append_getElem (by rw [ptrs_len]; exact h)]
  congr 2
  unfold ptrsL; simp
theorem ptrs_get {os : List Ob} {i : Nat} (h : i < os.length) : (ptrsL os).getD i 0 = wordR 2 (atO os i : Nat) 0 := by
  unfold ptrsL
  rw [List.getD_eq_getElem?_getD, List.getElem?_map, List.getElem?_range h]; rfl
/-- So many objects begin ahead of a place. -/
def Ahead (os : List Ob) (q k : Nat) : Prop := k ≤ os.length ∧ (∀ j, j < k → atO os j < q) ∧ (k < os.length → q ≤ atO os k)
theorem Ahead.zero (os : List Ob) : Ahead os 0 0 := ⟨Nat.zero_le _, fun j hj => by omega, fun _ => Nat.zero_le _⟩
theorem Ahead.yes {os : List Ob} {q k j : Nat} (h : Ahead os q k) (hj : j < os.length) (e : q = atO os j) : j = k ∧ Ahead os (q + 1) (k + 1) := by
  obtain ⟨h1, h2, h3⟩ := h
  have hjk : k ≤ j := Nat.le_of_not_lt (fun hlt => by have := h2 j hlt; omega)
  have hkj : j = k := by
    rcases Nat.lt_or_ge k j with hlt | hge
    · have := at_mono (os := os) (j := k) (k := j) (by omega) (by omega)
      have := h3 (by omega)
      omega
    · omega
  subst hkj
  refine ⟨rfl, by omega, fun i hi => ?_, fun hlt => ?_⟩
  · by_cases e' : i = j
    · rw [e', ← e]; omega
    · have := h2 i (by omega); omega
  · have := at_mono (os := os) (j := j) (k := j + 1) (by omega) (by omega)
    omega
theorem Ahead.no {os : List Ob} {q k : Nat} (h : Ahead os q k) (hn : ¬ ∃ j, j < os.length ∧ q = atO os j) : Ahead os (q + 1) k := by
  obtain ⟨h1, h2, h3⟩ := h
  refine ⟨h1, fun j hj => by have := h2 j hj; omega, fun hlt => ?_⟩
  have := h3 hlt
  have : q ≠ atO os k := fun e => hn ⟨k, hlt, e⟩
  omega
theorem Ahead.all {os : List Ob} {k : Nat} (h : Ahead os (usedL os) k) : k = os.length := by
  obtain ⟨h1, h2, h3⟩ := h
  rcases Nat.lt_or_ge k os.length with hlt | hge
  · have := h3 hlt
    have := at_lt hlt
    omega
  · omega
set_option maxHeartbeats 8000000 in
theorem pobjects_any {B : Nat} {v : Value} {N : Int} {F : Nat → Prop} {os : List Ob} (ho : OsOk os) (w : World) (h : PH B v N (wordsL os) F w) : Calls Try.prog 9 #[v] w fun e w' => ∃ ao cap, e = .returned (.slice ao os.length cap) ∧ URow w' ao os.length cap (ptrsL os) ∧ (∀ a, ao = some a → w.heap.size ≤ a.block) ∧ Below w.heap.size w w' := by
  have CU := hid (q_used w h)
  have hbd := h.bd
  rw [wordsL_length] at hbd CU
  obtain ⟨gh, gw, n, rest, rfl, hp⟩ := h.opened
  have HP := hid hp
  have hnn := hp.nn
  subst hnn
  obtain ⟨U, hU⟩ : ∃ u, u = usedL os := ⟨_, rfl⟩
  have HU := hid hU
  rw [← hU] at CU hbd
  have HO := hid ho
  clear h hp hU ho
  have hend : Hid (∀ (x : Value) (wr : World) (k : Nat), Ahead os U k → wr.ownsRow w.heap.size 34 1 x k (uz ((ptrsL os).take k)) → ∃ ao cap, x = .slice ao os.length cap ∧ URow wr ao os.length cap (ptrsL os) ∧ (∀ a, ao = some a → w.heap.size ≤ a.block)) := fun x wr k ha hr => by
    rw [HU.out] at ha
    have hk := ha.all
    subst hk
    rw [List.take_of_length_le (by rw [ptrs_len]; exact Nat.le_refl _)] at hr
    have hr2 := hr
    rw [← ptrs_len] at hr2
    obtain ⟨ao, cap, hv, hu⟩ := urow_own hr2 (fun z hz => by unfold ptrsL at hz; obtain ⟨i, _, rfl⟩ := List.mem_map.1 hz; exact wordR_rng _ _ _)
    rw [ptrs_len] at hv hu
    refine ⟨ao, cap, hv, hu, fun a ha => (hr.lt a.block (by rw [hv, ha]; rfl)).1⟩
  go_enter Try.func9, Try.ntmps9
  go_wp2_with (go_at_call 16; (with_reducible refine CU.out.mono ?_); rintro e W1 ⟨rfl, hw1⟩; rw [hw1]; clear hw1)
  go_loopw [3, 9] (fun x i wr => ∃ q : Nat, q ≤ U ∧ i = .int .i64 q ∧ Hid (∃ k, Ahead os q k ∧ wr.ownsRow w.heap.size 34 1 x k (uz ((ptrsL os).take k)) ∧ Below w.heap.size w wr)) (fun _ i _ => U - (intOf i).toNat)
  case atStart => exact ⟨0, Nat.zero_le _, rfl, 0, Ahead.zero os, by simpa [uz] using World.ownsRow_nil _ _ _ _, Below.refl _ _⟩
  case round =>
    obtain ⟨q, hq, rfl, hI⟩ := hrel
    obtain ⟨k, ha, hr, hb⟩ := hI.out
    have HAA := hid ha
    have HRR := hid hr
    have HBB := hid hb
    clear hI ha hr hb
    by_cases hlt : q < U
    · have hp := HP.out.on HBB.out
      have c0 := hp.c0
      have hlw : q < (wordsL os).length := by rw [wordsL_length, ← HU.out]; exact hlt
      have cw := hp.word' hlw
      have hul := hp.used_le
      rw [wordsL_length, ← HU.out] at hul
      have hzu := hp.u _ (getD_in_f hlw)
      have hiff := head_iff HO.out (by rw [← HU.out]; omega) (i := q) (by rw [← HU.out]; exact hlt)
      obtain ⟨z, hz⟩ : ∃ z, z = (wordsL os).getD q 0 := ⟨_, rfl⟩
      rw [← hz] at cw hzu hiff
      have C2 := hid (q_ishead z hzu wr)
      have HIFF := hid hiff
      obtain ⟨b, hbb⟩ : ∃ b, b = isHd z := ⟨_, rfl⟩
      rw [← hbb] at C2
      have HBV := hid hbb
      clear hp hlw hzu hz hbb hiff
      have hkq : Hid (k ≤ 4194304) := by
        unfold Hid
        have h1 := HAA.out.1
        have := len_le_used os
        have := HU.out
        omega
      cases b
      · have HN : Hid (Ahead os (q + 1) k) := HAA.out.no (fun ⟨j, h1, h2⟩ => by
          have := HIFF.out.2 ⟨j, h1, h2⟩
          have h3 := HBV.out
          unfold isHd at h3
          rw [decide_eq_true this] at h3
          cases h3)
        go_wp2_with (go_at_call 27; (with_reducible refine C2.out.mono ?_); rintro e W2 ⟨rfl, hw2⟩; rw [hw2]; clear hw2)
        exact ⟨⟨q + 1, by omega, by go_num, k, HN.out, HRR.out, HBB.out⟩, by simp [intOf] <;> omega⟩
      · obtain ⟨j, hj, hje⟩ := HIFF.out.1 (of_decide_eq_true HBV.out.symm)
        obtain ⟨hjk, hN⟩ := HAA.out.yes hj hje
        subst hjk
        have HN := hid hN
        have C3 := hid (ptr_any (q : Int) (by unfold Z64; omega) wr)
        obtain ⟨X, hX⟩ : ∃ X, X = wordR 2 (q : Nat) 0 := ⟨_, rfl⟩
        have hXu : U64 X := by rw [hX]; exact wordR_rng _ _ _
        obtain ⟨rb, hrb⟩ : ∃ r, r = rightB 2 (q : Nat) 0 := ⟨_, rfl⟩
        rw [← hX, ← hrb] at C3
        have HT : Hid ((ptrsL os).take (j + 1) = (ptrsL os).take j ++ [X]) := by unfold Hid; rw [ptrs_at hj, ← hje, hX]
        obtain ⟨L, hL⟩ : ∃ l, l = (ptrsL os).take j := ⟨_, rfl⟩
        rw [← hL] at HRR HT
        have HO1 := hid (uown_on HRR.out (Ba wr (.cells #[.int .u64 X] 34)))
        have HU1 := hid (urow_one (blk_new wr #[.int .u64 X] 34) hXu)
        have HB1 := hid (Bt HBB.out (Ba wr (.cells #[.int .u64 X] 34)))
        have HSz : Hid (w.heap.size ≤ (wr.alloc (.cells #[.int .u64 X] 34)).heap.size) := HB1.out.size
        have hjs : j ≤ 4194304 := hkq.out
        clear hX hrb hL hj hje hN hXu
        go_wp2_with (first
          | (go_at_call 27; (with_reducible refine C2.out.mono ?_); rintro e W2 ⟨rfl, hw2⟩; rw [hw2]; clear hw2)
          | (go_at_call 28; (with_reducible refine C3.out.mono ?_); rintro e W2 ⟨rfl, hw2⟩; rw [hw2]; clear hw2)
          | (at_builtin; refine appU rfl _ _ 32 rfl w.heap.size 34 Try.underlying32 info_word _ j L rfl HO1.out (some ⟨wr.heap.size, 0, none⟩) 1 1 [X] rfl HU1.out (by omega) HSz.out ?_; intro v' w5 ho5 hg5))
        refine ⟨⟨q + 1, by omega, by go_num, j + 1, HN.out, ?_, HB1.out.grown hg5 HSz.out (fun k hk => (HO1.out.lt k hk).1)⟩, by simp [intOf] <;> omega⟩
        rw [HT.out]; exact ho5
    · obtain rfl : q = U := by omega
      go_wp2_with fail
      go_ret
      obtain ⟨ao, cap, e1, e2, e3⟩ := hend.out _ _ _ HAA.out HRR.out
      exact ⟨ao, cap, congrArg Ending.returned e1, e2, e3, HBB.out⟩
end Go.Proofs.Ythiniidgklilnaa
