/-
  Walks of the program: isHead, length; the memory of marking.
-/
import Derived.Test.YthgkonjglappjabU27
import Derived.Test.YthgkonjglappjabU0
import Derived.Test.YthgkonjglappjabV9g
import Derived.Deep.LoopGhost
set_option linter.unusedVariables false
set_option linter.unusedSimpArgs false
set_option maxRecDepth 100000
namespace Go.Proofs.Ythgkonjglappjab
open Go.RowKit

theorem ghead_any (z : Int) (hz : U64 z) (w : World) : Calls Try.prog 18 #[.int .u64 z] w fun e w' => e = .returned (.bool (isHd z)) ∧ w' = w := by
  have C := hid (headof_any z hz w)
  have e0 : isR 8 z = isHd z := rfl
  rw [e0] at C
  obtain ⟨b, hb⟩ : ∃ b, b = isHd z := ⟨_, rfl⟩
  obtain ⟨kd, hkd⟩ : ∃ k, k = typR z := ⟨_, rfl⟩
  obtain ⟨sz, hsz⟩ : ∃ k, k = hasR 8 z := ⟨_, rfl⟩
  rw [← hb, ← hkd, ← hsz] at C
  rw [← hb]
  clear hb hkd hsz e0
  go_enter Try.func18, Try.ntmps18
  go_wp2_with (go_at_call 30; (with_reducible refine C.out.mono ?_); rintro e W1 ⟨rfl, hw1⟩; rw [hw1]; clear hw1)
  go_ret
  exact ⟨rfl, rfl⟩
section
variable {B : Nat} {v : Value} {N : Int} {F : Nat → Prop} {os : List Ob}
theorem ph_used {w : World} (h : PH B v N (wordsL os) F w) : usedL os ≤ 4194304 := by
  have hbd := h.bd
  rw [wordsL_length] at hbd
  omega
theorem glen_any {k : Nat} (ho : OsOk os) (hk : k < os.length) (w : World) (h : PH B v N (wordsL os) F w) :
    Calls Try.prog 20 #[v, .int .i64 (atO os k : Nat)] w fun e w' => e = .returned (.int .i64 ((1 + (os.getD k default).f.length : Nat) : Int)) ∧ w' = w := by
  have hus := ph_used h
  have hlt := at_lt hk
  have hwl : (wordsL os).length = usedL os := wordsL_length os
  have CU := hid (q_used w h)
  rw [hwl] at CU
  have C0 := hid (q_word (k := atO os k) (by omega) w h)
  have hu0 : U64 ((wordsL os).getD (atO os k) 0) := h.u _ (getD_in_f (by omega))
  have C1 := hid (headof_any _ hu0 w)
  have hho : ofR ((wordsL os).getD (atO os k) 0) = (8, (((os.getD k default).f.length : Nat) : Int), (os.getD k default).kind) := by
    rw [word_head hk]; exact head_of (ho.kd _ (getD_in_os hk)) (by omega)
  have e1 : hasR 8 ((wordsL os).getD (atO os k) 0) = ((os.getD k default).f.length : Nat) := by unfold hasR; rw [hho]; simp
  rw [e1] at C1
  have CF : Hid (∀ j, j < (os.getD k default).f.length → ∃ z, U64 z ∧ isHd z = false ∧ Calls Try.prog 19 #[v, .int .i64 ((atO os k + 1 + j : Nat) : Int)] w fun e w' => e = .returned (.int .u64 z) ∧ w' = w) := fun j hj =>
    ⟨(os.getD k default).f.getD j 0, ho.uf _ (getD_in_os hk) _ (getD_in_f hj), ho.nh _ (getD_in_os hk) _ (getD_in_f hj), by
      have := q_word (k := atO os k + 1 + j) (by omega) w h
      rw [word_field hk hj] at this
      exact this⟩
  obtain ⟨A, hA⟩ : ∃ x, x = atO os k := ⟨_, rfl⟩
  obtain ⟨m, hm⟩ : ∃ x, x = (os.getD k default).f.length := ⟨_, rfl⟩
  obtain ⟨z0, hz0⟩ : ∃ x, x = (wordsL os).getD (atO os k) 0 := ⟨_, rfl⟩
  obtain ⟨us, hu⟩ : ∃ x, x = usedL os := ⟨_, rfl⟩
  rw [← hz0] at C0 C1 hu0
  obtain ⟨t0, ht0⟩ : ∃ x, x = typR z0 := ⟨_, rfl⟩
  obtain ⟨b0, hb0⟩ : ∃ x, x = isR 8 z0 := ⟨_, rfl⟩
  rw [← ht0, ← hb0] at C1
  rw [← hA] at C0 CF hlt ⊢
  rw [← hm] at C1 CF hlt ⊢
  rw [← hu] at CU hlt hus
  obtain ⟨gh, rfl⟩ := h.ptr
  clear h hA hm hz0 hu hwl hho e1 hu0 ho hk ht0 hb0
  go_enter Try.func20, Try.ntmps20
  have hmin : Min.min ((A : Int) + 1 + (m : Int)) (us : Int) = (A : Int) + 1 + (m : Int) := by omega
  go_wp2_with (first
    | (go_at_call 19; (with_reducible refine C0.out.mono ?_); rintro e W1 ⟨rfl, hw1⟩; rw [hw1]; clear hw1)
    | (go_at_call 30; (with_reducible refine C1.out.mono ?_); rintro e W1 ⟨rfl, hw1⟩; rw [hw1]; clear hw1)
    | (go_at_call 15; (with_reducible refine CU.out.mono ?_); rintro e W1 ⟨rfl, hw1⟩; rw [hw1]; clear hw1))
  clear C0 C1 CU hmin
  go_loopw [9] (fun i wr => ∃ q : Nat, q ≤ m ∧ i = .int .i64 ((A : Int) + 1 + (q : Int)) ∧ Hid (wr = w)) (fun i _ => m - (intOf i - (A : Int) - 1).toNat)
  case atStart => exact ⟨0, Nat.zero_le _, by simp, rfl⟩
  case round =>
    obtain ⟨q, hq, rfl, hw⟩ := hrel
    by_cases hlt2 : q < m
    · obtain ⟨z, hz, hh, hc⟩ := CF.out q hlt2
      have CW := hid hc
      have CI := hid (ghead_any z hz w)
      rw [hh] at CI
      have hcast : ((A + 1 + q : Nat) : Int) = (A : Int) + 1 + (q : Int) := by omega
      rw [hcast] at CW
      clear hc hz hh hcast
      have hw' := hw.out
      subst hw'
      go_wp2_with (first
        | (go_at_call 19; (with_reducible refine CW.out.mono ?_); rintro e W1 ⟨rfl, hw1⟩; rw [hw1]; clear hw1)
        | (go_at_call 18; (with_reducible refine CI.out.mono ?_); rintro e W1 ⟨rfl, hw1⟩; rw [hw1]; clear hw1))
      exact ⟨⟨q + 1, by omega, by go_num, trivial⟩, by simp [intOf] <;> omega⟩
    · obtain rfl : q = m := by omega
      have hw' := hw.out
      subst hw'
      go_wp2_with fail
      go_ret
      refine ⟨?_, rfl⟩
      rw [show ((A : Int) + 1 + (q : Int) - (A : Int)) = ((1 + q : Nat) : Int) by omega]
      rfl
end
/-- The memory of marking: the heap's pointer, the lengths, the stack, from block b on. -/
structure MM (b : Nat) (w0 : World) (v vs : Value) (ln st : List Int) (w : World) : Prop where
  bel : Below b w0 w
  bb : w.heap[b]? = some (.cells #[v] 28 (0, 0))
  bl : w.heap[b + 1]? = some (.cells (iz ln).toArray 3 (0, 0))
  bp : w.heap[b + 2]? = some (.cells #[.slice (some ⟨b + 1, 0, none⟩) ln.length ln.length] 29 (0, 0))
  bs : w.heap[b + 3]? = some (.cells #[vs] 29 (0, 0))
  so : w.ownsRow (b + 4) 3 1 vs st.length (iz st)
section
variable {b : Nat} {w0 w w' : World} {v vs : Value} {ln st : List Int}
theorem MM.size (h : MM b w0 v vs ln st w) : b + 4 ≤ w.heap.size := (Array.getElem?_eq_some_iff.1 h.bs).1
theorem MM.on (h : MM b w0 v vs ln st w) (hb : Below w.heap.size w w') : MM b w0 v vs ln st w' := by
  have hs := h.size
  exact ⟨h.bel.trans (hb.mono (by omega)), (hb.block b (by omega)).trans h.bb, (hb.block _ (by omega)).trans h.bl, (hb.block _ (by omega)).trans h.bp, (hb.block _ (by omega)).trans h.bs, uown_on h.so hb⟩
theorem MM.len (h : MM b w0 v vs ln st w) {i : Nat} (hi : i < ln.length) : w.cell? ⟨b + 1, i, none⟩ = some (.int .i64 (ln.getD i 0)) := by
  rw [blk_cell h.bl]
  simp [iz, List.getElem?_map, List.getElem?_eq_getElem hi, List.getD_eq_getElem?_getD]
/-- A length is set. -/
theorem MM.set (h : MM b w0 v vs ln st w) (i : Nat) (z : Int) : MM b w0 v vs (ln.set i z) st (w.setCell ⟨b + 1, i, none⟩ (.int .i64 z)) := by
  have hs := h.size
  have hset : ∀ k, k ≠ b + 1 → (w.setCell ⟨b + 1, i, none⟩ (.int .i64 z)).heap[k]? = w.heap[k]? := fun k hne => Below.heap_setCell _ _ _ _ hne
  refine ⟨h.bel.setCell (p := ⟨b + 1, i, none⟩) (by show b ≤ b + 1; omega) _, (hset _ (by omega)).trans h.bb, ?_, ?_, (hset _ (by omega)).trans h.bs, own_at h.so (fun k e => hset k (by have := (h.so.lt k e).1; omega))⟩
  · rw [blk_set (i := i) h.bl]
    simp [iz, List.map_set]
  · rw [List.length_set]; exact (hset _ (by omega)).trans h.bp
/-- The stack is turned. -/
theorem MM.turn (h : MM b w0 v vs ln st w) {vs' : Value} {st' : List Int} (hg : w.grownBy w' vs.ownBlock) (ho : w'.ownsRow (b + 4) 3 1 vs' st'.length (iz st')) :
    MM b w0 v vs' ln st' (w'.setCell ⟨b + 3, 0, none⟩ vs') ∧ w'.cell? ⟨b + 3, 0, none⟩ = some vs ∧ w'.frozen? ⟨b + 3, 0, none⟩ = false := by
  have hs := h.size
  have hs2 := hg.size
  have hlow : ∀ k, k < b + 4 → w'.heap[k]? = w.heap[k]? := fun k hk => hg.block k (by omega) (fun e => by have := (h.so.lt k e.symm).1; omega)
  have hset : ∀ k, k ≠ b + 3 → (w'.setCell ⟨b + 3, 0, none⟩ vs').heap[k]? = w'.heap[k]? := fun k hne => Below.heap_setCell _ _ _ _ hne
  have hbs := (hlow (b + 3) (by omega)).trans h.bs
  refine ⟨⟨?_, (hset _ (by omega)).trans ((hlow _ (by omega)).trans h.bb), (hset _ (by omega)).trans ((hlow _ (by omega)).trans h.bl), (hset _ (by omega)).trans ((hlow _ (by omega)).trans h.bp), ?_, own_at ho (fun k e => hset k (by have := (ho.lt k e).1; omega))⟩, blk_cell hbs 0, blk_free hbs 0⟩
  · exact (h.bel.trans ⟨hg.os, hg.tape, hg.output, hg.size, fun k hk => hlow k (by omega)⟩).setCell (p := ⟨b + 3, 0, none⟩) (by show b ≤ b + 3; omega) _
  · rw [blk_set (i := 0) hbs]; rfl
/-- The stack's end is cut off. -/
theorem own_pop {base : Nat} {e : TypeId} {a : Option Addr} {n c : Nat} {l : List Int} {z : Int} (h : w.ownsRow base e 1 (.slice a (n + 1) c) (n + 1) (iz (l ++ [z]))) : w.ownsRow base e 1 (.slice a n c) n (iz l) ∧ n + 1 ≤ c ∧ c ≤ maxLen ∧ ∃ g, a = some ⟨g, 0, none⟩ ∧ w.cell? ⟨g, n, none⟩ = some (.int .i64 z) := by
  obtain ⟨h1, h2⟩ := h
  rw [iz_length, List.length_append] at h1
  have hl : l.length = n := by simpa using h1
  rcases h2 with ⟨e1, e2⟩ | ⟨g, cap, cur, e1, e2, e3, e4, e5, e6, e7⟩
  · omega
  · injection e1 with e1 e1' e1''
    subst e1''
    have ht : cur.toList.take n = iz l := by
      have := congrArg (List.take n) e7
      rw [List.take_take, iz_append, List.take_append_of_le_length (by rw [iz_length]; omega), show min n ((n + 1) * 1) = n by omega] at this
      rw [this, List.take_of_length_le (by rw [iz_length]; omega)]
    refine ⟨⟨by rw [iz_length]; omega, .inr ⟨g, c, cur, by rw [e1], e2, e3, by omega, e5, e6, by rw [Nat.mul_one]; exact ht⟩⟩, e4, e5, g, e1, ?_⟩
    rw [blk_cell e3]
    have hg : (cur.toList.take ((n + 1) * 1))[n]? = some (.int .i64 z) := by
      rw [e7, iz_append, List.getElem?_append_right (by rw [iz_length]; omega), iz_length, hl, Nat.sub_self]; rfl
    rw [List.getElem?_take, if_pos (by omega)] at hg
    simpa using hg
end
theorem slice_of' {w : World} {base : Nat} {e : TypeId} {k : Nat} {v : Value} {n : Nat} {xs : List Value} (h : w.ownsRow base e k v n xs) : ∃ a c, v = .slice a n c ∧ n ≤ c ∧ c ≤ 9223372036854775807 := by
  rcases h.2 with ⟨e1, e2⟩ | ⟨g, cap, cur, e1, _, _, h4, h5, _⟩
  · subst e2; exact ⟨none, 0, e1, Nat.le_refl _, by omega⟩
  · unfold maxLen at h5; exact ⟨_, _, e1, h4, h5⟩
theorem below_drew (w : World) : Below w.heap.size w w.drew := ⟨rfl, rfl, rfl, Nat.le_refl _, fun _ _ => rfl⟩
/-- Marks and stack, as they lie in memory. -/
def MX (os : List Ob) (b : Nat) (w0 : World) (v : Value) (l : List Bool) (sk : List Nat) (w : World) : Prop :=
  ∃ vs ln, Lens os l ln ∧ MM b w0 v vs ln (sk.map (fun k => ((atO os k : Nat) : Int))) w
end Go.Proofs.Ythgkonjglappjab
