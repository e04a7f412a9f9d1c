/-
  Walks of the program: Live; mover and its closure.
-/
import Derived.Test.YthgkonjglappjabU30
set_option linter.unusedVariables false
set_option linter.unusedSimpArgs false
set_option maxRecDepth 100000
namespace Go.Proofs.Ythgkonjglappjab
open Go.RowKit

section
variable {B : Nat} {v : Value} {N : Int} {F : Nat → Prop} {os : List Ob} {l : List Bool} {ln : List Int}
theorem Ahead.cases {q k : Nat} (h : Ahead os q k) : (k < os.length ∧ q = atO os k) ∨ ∀ j, j < os.length → q ≠ atO os j := by
  by_cases e : ∃ j, j < os.length ∧ q = atO os j
  · obtain ⟨j, hj, e⟩ := e
    obtain ⟨rfl, _⟩ := h.yes hj e
    exact .inl ⟨hj, e⟩
  · exact .inr (fun j hj e' => e ⟨j, hj, e'⟩)
theorem Lens.step (L : Lens os l ln) {q k : Nat} (h : Ahead os q k) : ∃ k', Ahead os (q + 1) k' ∧ ((toM os l k' : Nat) : Int) = (toM os l k : Nat) + ln.getD q 0 := by
  rcases h.cases with ⟨hk, e⟩ | hn
  · refine ⟨k + 1, (h.yes hk e).2, ?_⟩
    rw [toM_succ hk L.ll, e, L.yes k hk]
    split <;> omega
  · refine ⟨k, h.no (fun ⟨j, hj, e⟩ => hn j hj e), ?_⟩
    rw [L.no q hn]; omega
theorem toM_us (L : Lens os l ln) {q k : Nat} (h : Ahead os q k) : toM os l k ≤ usedL os :=
  Nat.le_trans (toM_le L.ll h.1) (used_take_le os k)
theorem iz_cell {w : World} {g : Nat} {ln : List Int} (h : w.heap[g]? = some (.cells (iz ln).toArray 3 (0, 0))) {i : Nat} (hi : i < ln.length) : w.cell? ⟨g, i, none⟩ = some (.int .i64 (ln.getD i 0)) := by
  rw [blk_cell h]
  simp [iz, List.getElem?_map, List.getElem?_eq_getElem hi, List.getD_eq_getElem?_getD]
set_option maxHeartbeats 8000000 in
theorem plive_any (ho : OsOk os) (ro : Option Addr) (nr cr : Nat) (rs : List Int) (w : World) (h : PH B v N (wordsL os) F w) (R : URow w ro nr cr rs) (hsm : nr ≤ 1000000) :
    Calls Try.prog 4 #[v, .slice ro nr cr] w fun e w' => e = .returned (.int .i64 (usedL (keepL os (lvL os rs)) : Nat)) ∧ Below w.heap.size w w' := by
  have hus := ph_used h
  have CM := hid (mark_any ho ro nr cr rs w h R)
  obtain ⟨gh, rfl⟩ := h.ptr
  have HE : Hid (∀ k, Ahead os (usedL os) k → toM os (lvL os rs) k = usedL (keepL os (lvL os rs))) := fun k hk => by
    rw [hk.all]; unfold toM; rw [keep_all os _ (lvL_length os rs)]
  obtain ⟨us, hu⟩ : ∃ x, x = usedL os := ⟨_, rfl⟩
  have HU := hid hu
  rw [← hu] at CM hus HE
  clear h R hu
  go_enter Try.func4, Try.ntmps4
  go_wp2_with (go_at_call 8; (with_reducible refine CM.out.mono ?_); rintro e W1 ⟨g, ln, rfl, hg, hL, hrow, b1⟩; have HL := hid hL; have HRW := hid hrow; have HB := hid b1; clear hg hL hrow b1)
  go_loopw [5, 12] (fun s i wr => ∃ q : Nat, q ≤ us ∧ i = .int .i64 q ∧ ∃ t : Nat, t ≤ us ∧ s = .int .i64 t ∧ Hid (∃ k, Ahead os q k ∧ t = toM os (lvL os rs) k) ∧ Hid (wr = W1)) (fun _ i _ => us - (intOf i).toNat)
  case atStart => exact ⟨0, Nat.zero_le _, rfl, 0, Nat.zero_le _, rfl, ⟨0, Ahead.zero os, (toM_zero os _).symm⟩, rfl⟩
  case round =>
    obtain ⟨q, hq, rfl, t, ht, rfl, hI, hw⟩ := hrel
    have hw' := hw.out
    subst hw'
    by_cases hlt : q < us
    · obtain ⟨k, hA, htk⟩ := hI.out
      obtain ⟨k', hA', htk'⟩ := HL.out.step hA
      have hus' := toM_us HL.out hA'
      have c1 := iz_cell HRW.out (i := q) (by rw [HL.out.len, ← HU.out]; exact hlt)
      have hz := HL.out.z q
      rw [← htk] at htk'
      rw [← HU.out] at hz hus'
      obtain ⟨x, hx⟩ : ∃ x, x = ln.getD q 0 := ⟨_, rfl⟩
      rw [← hx] at c1 htk' hz
      obtain ⟨n, rfl⟩ : ∃ n : Nat, x = (n : Int) := ⟨x.toNat, by omega⟩
      have hn : t + n ≤ us := by omega
      have HK : Hid (∃ k, Ahead os (q + 1) k ∧ t + n = toM os (lvL os rs) k) := ⟨k', hA', by omega⟩
      clear hI hx htk' hA hA' htk hus' hz
      go_wp2_with fail
      exact ⟨⟨q + 1, by omega, by go_num, t + n, hn, by go_num, HK, trivial⟩, by simp [intOf] <;> omega⟩
    · obtain rfl : q = us := by omega
      obtain ⟨k, hA, htk⟩ := hI.out
      have he := HE.out k hA
      go_wp2_with fail
      go_ret
      rw [← he, ← htk]
      exact ⟨rfl, HB.out⟩
end
end Go.Proofs.Ythgkonjglappjab
