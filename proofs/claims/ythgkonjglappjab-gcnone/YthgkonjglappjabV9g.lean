/-
  The program's heap: Put, Cut.
-/
import Derived.Test.YthgkonjglappjabV9f
set_option linter.unusedVariables false
set_option linter.unusedSimpArgs false
set_option maxRecDepth 100000
namespace Go.Proofs.Ythgkonjglappjab
open Go.RowKit

section
variable {B : Nat} {v : Value} {N : Int} {F : Nat → Prop} {ws : List Int}
theorem q_put {k : Nat} {z : Int} (hk : k < ws.length) (hz : U64 z) (w : World) (h : PH B v N ws F w) : Calls Try.prog 23 #[v, .int .i64 k, .int .u64 z] w fun e w' => e = .returned (.tuple #[]) ∧ PH B v N (ws.set k z) F w' ∧ Mod F w w' := by
  have CU := hid (q_in hk w h)
  obtain ⟨gh, gw, n, rest, rfl, hp⟩ := h.opened
  have HP := hid hp
  have HZ := hid hz
  have HK := hid hk
  have c0 := hp.c0
  have cw := hp.word' hk
  have fw := blk_free hp.row k
  have hul := hp.used_le
  have hnn := hp.nn
  have hbd := hp.bd
  obtain ⟨y, hy⟩ : ∃ y, y = ws.getD k 0 := ⟨_, rfl⟩
  rw [← hy] at cw
  clear h hp hy
  go_enter Try.func23, Try.ntmps23
  go_wp2_with (go_at_call 31; (with_reducible refine CU.out.mono ?_); rintro e W1 ⟨rfl, hw1⟩; rw [hw1]; clear hw1)
  go_end0
  obtain ⟨q1, q2⟩ := HP.out.put HK.out HZ.out
  exact ⟨rfl, q1.shut, q2⟩
theorem q_noput {i : Int} {z : Int} (hi : i < 0 ∨ (ws.length : Int) ≤ i) (w : World) (h : PH B v N ws F w) : Calls Try.prog 23 #[v, .int .i64 i, .int .u64 z] w fun e w' => e = .returned (.tuple #[]) ∧ w' = w := by
  have CU := hid (q_out hi w h)
  obtain ⟨gh, rfl⟩ := h.ptr
  clear h hi
  go_enter Try.func23, Try.ntmps23
  go_wp2_with (go_at_call 31; (with_reducible refine CU.out.mono ?_); rintro e W1 ⟨rfl, hw1⟩; rw [hw1]; clear hw1)
  go_end0
  exact ⟨rfl, rfl⟩
theorem pput_any (i z : Int) (hi : Z64 i) (hz : U64 z) (w : World) (h : PH B v N ws F w) (hB : B ≤ w.heap.size) : Calls Try.prog 23 #[v, .int .i64 i, .int .u64 z] w fun e w' => e = .returned (.tuple #[]) ∧ PPost B v N F w (if 0 ≤ i ∧ i < ws.length then ws.set i.toNat z else ws) w' := by
  by_cases hc : 0 ≤ i ∧ i < ws.length
  · rw [if_pos hc]
    obtain ⟨k, rfl⟩ : ∃ k : Nat, i = (k : Int) := ⟨i.toNat, by omega⟩
    rw [Int.toNat_natCast]
    exact (q_put (by omega) hz w h).mono (fun e w' ⟨h1, h2, h3⟩ => ⟨h1, F, h2, fun b hb => .inl hb, h3⟩)
  · rw [if_neg hc]
    exact (q_noput (by omega) w h).mono (fun e w' ⟨h1, h2⟩ => ⟨h1, by rw [h2]; exact ⟨F, h, fun b hb => .inl hb, Mod.refl F w⟩⟩)
/-- What is cut off is rest. -/
theorem PO.cut {gh gw n : Nat} {rest : List Int} {w : World} (h : PO B gh gw n N ws rest F w) {k : Nat} (hk : k ≤ ws.length) : PO B gh gw n N (ws.take k) (ws.drop k ++ rest) F (w.setCell ⟨gh, 1, none⟩ (.int .i64 (k : Nat))) ∧ Mod F w (w.setCell ⟨gh, 1, none⟩ (.int .i64 (k : Nat))) := by
  have e0 : (ws.take k).length = k := by rw [List.length_take]; omega
  refine ⟨{ h with box := ?_, row := ?_, len := ?_, bd := ?_, u := ?_ }, (Mod.refl F w).setCell (.inl ((h.ff gh).2 (.inl rfl))) _⟩
  · rw [e0, blk_set (i := 1) h.box]; rfl
  · rw [← List.append_assoc, List.take_append_drop]
    exact (Below.heap_setCell w ⟨gh, 1, none⟩ _ gw (fun e => h.ne e.symm)).trans h.row
  · rw [← List.append_assoc, List.take_append_drop]; exact h.len
  · rw [e0]; have := h.bd; omega
  · exact fun z hz => h.u z (List.mem_of_mem_take hz)
theorem pcut_any (n : Int) (hn : Z64 n) (w : World) (h : PH B v N ws F w) (hB : B ≤ w.heap.size) : Calls Try.prog 24 #[v, .int .i64 n] w fun e w' => e = .returned (.tuple #[]) ∧ PPost B v N F w (if 0 ≤ n ∧ n ≤ ws.length then ws.take n.toNat else ws) w' := by
  have CU := hid (q_used w h)
  have same : Hid (PPost B v N F w ws w) := ⟨F, h, fun b hb => .inl hb, Mod.refl F w⟩
  obtain ⟨R, hR⟩ : ∃ R, R = (if 0 ≤ n ∧ n ≤ ws.length then ws.take n.toNat else ws) := ⟨_, rfl⟩
  rw [← hR]
  have HRR := hid hR
  clear hR
  obtain ⟨gh, gw, m, rest, rfl, hp⟩ := h.opened
  have HP := hid hp
  have hbd := hp.bd
  have c1 := hp.c1
  have f1 := blk_free hp.box 1
  unfold Z64 at hn
  clear h hp
  by_cases h0 : n < 0
  · have he : Hid (R = ws) := HRR.out.trans (if_neg (by omega))
    go_enter Try.func24, Try.ntmps24
    go_wp2_with (go_at_call 15; (with_reducible refine CU.out.mono ?_); rintro e W1 ⟨rfl, hw1⟩; rw [hw1]; clear hw1)
    go_end0
    rw [he.out]
    exact ⟨rfl, same.out⟩
  obtain ⟨k, rfl⟩ : ∃ k : Nat, n = (k : Int) := ⟨n.toNat, by omega⟩
  by_cases h1 : k < ws.length
  · have he : Hid (R = ws.take k) := by unfold Hid; rw [HRR.out, if_pos (by omega), Int.toNat_natCast]
    have HK := hid h1
    go_enter Try.func24, Try.ntmps24
    go_wp2_with (go_at_call 15; (with_reducible refine CU.out.mono ?_); rintro e W1 ⟨rfl, hw1⟩; rw [hw1]; clear hw1)
    go_end0
    rw [he.out]
    obtain ⟨q1, q2⟩ := HP.out.cut (k := k) (Nat.le_of_lt HK.out)
    exact ⟨rfl, F, q1.shut, fun b hb => .inl hb, q2⟩
  · have he : Hid (R = ws) := by
      unfold Hid
      rw [HRR.out]
      split
      · rename_i hc
        rw [Int.toNat_natCast, List.take_of_length_le (by omega)]
      · rfl
    go_enter Try.func24, Try.ntmps24
    go_wp2_with (go_at_call 15; (with_reducible refine CU.out.mono ?_); rintro e W1 ⟨rfl, hw1⟩; rw [hw1]; clear hw1)
    go_end0
    rw [he.out]
    exact ⟨rfl, same.out⟩
end
theorem fillP_is {os : List Ob} {N kind n z : Int} (h : isHd z = false) : fillP os N kind n z = fillM os N kind n z := by
  unfold fillP fillM
  simp [h]
theorem fillQ_is {os : List Ob} {N kind n z : Int} (h : isHd z = false) : fillQ os N kind n z = fillO os N kind n z := by
  unfold fillQ fillO; rw [fillP_is h]
end Go.Proofs.Ythgkonjglappjab
