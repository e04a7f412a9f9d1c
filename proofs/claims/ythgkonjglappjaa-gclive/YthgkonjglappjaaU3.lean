/-
  Walks: the document's Live, moved.
-/
import Derived.Test.YthgkonjglappjaaU2
set_option linter.unusedVariables false
set_option linter.unusedSimpArgs false
set_option maxRecDepth 100000
namespace Go.Proofs.Ythgkonjglappjaa
open Go.RowKit

set_option maxHeartbeats 8000000 in
theorem rlive_any {B g : Nat} {N : Int} {vL : Value} {ls : List (Ob × Sl)} (ro : Option Addr) (nr cr : Nat) (rs : List Int) (w : World) (h : RH B g N vL ls w) (R : URow w ro nr cr rs) :
    Calls Try.prog 18 #[.pointer (some ⟨g, 0, none⟩), .slice ro nr cr] w fun e w' => e = .returned (.int .i64 (usedL (keepL (ls.map Prod.fst) (lvL (ls.map Prod.fst) rs)) : Nat)) ∧ Below w.heap.size w w' := by
  have H := hid h
  have hrm := h.room
  have hll : ls.length ≤ 1099511627776 := by have := len_le_used (ls.map Prod.fst); rw [List.length_map] at this; omega
  have C1 := hid (rlives_any ro nr cr rs w h R)
  obtain ⟨gl0, cp0, rfl⟩ := vl_slice h
  clear h R
  have hlo : (ls.map Prod.fst).length = ls.length := List.length_map _
  obtain ⟨os, hos⟩ : ∃ os, os = ls.map Prod.fst := ⟨_, rfl⟩
  rw [← hos] at C1 hlo hrm ⊢
  have HOS := hid hos
  clear hos
  have hll2 := lvL_length os rs
  obtain ⟨l, hl⟩ : ∃ l, l = lvL os rs := ⟨_, rfl⟩
  rw [← hl] at C1 hll2 ⊢
  clear hl
  have HTA : Hid (usedL (keepL os l) = toM os l ls.length) := by unfold Hid toM; rw [← hlo, keep_all os l hll2]
  rw [HTA.out]
  go_enter Try.func18, Try.ntmps18
  go_wp2_with (go_at_call 21; (with_reducible refine C1.out.mono ?_); rintro e W1 ⟨gb, rfl, hgb, hrow, b1⟩; have HB1 := hid b1; have HBR := hid hrow; clear b1 hrow)
  go_loopw [6, 7] (fun n i wr => ∃ q : Nat, q ≤ ls.length ∧ n = .int .i64 (toM os l q : Nat) ∧ i = .int .i64 q ∧ Hid (Below W1.heap.size W1 wr)) (fun _ i _ => ls.length - (intOf i).toNat)
  case atStart => exact ⟨0, Nat.zero_le _, by rw [toM_zero]; rfl, rfl, Below.refl _ _⟩
  case round =>
    obtain ⟨q, hq, rfl, rfl, hb⟩ := hrel
    by_cases hlt : q < ls.length
    · have cb := (HBR.out.on hb.out).get (i := q) (by omega)
      obtain ⟨gl, xa, xc, rfl, hc1, hc2, d1, d2, d3, dU⟩ := ((H.out.on HB1.out).on hb.out).fld hlt
      have hxf := dU.fits
      have hxm := dU.most
      unfold maxLen at hc2 hxm
      rw [← HOS.out] at d3 hxf
      have hts := toM_succ (i := q) (by omega) hll2
      have htl := toM_le hll2 (i := q + 1) (by omega)
      have hta := used_take_le os (q + 1)
      obtain ⟨T, hT⟩ : ∃ T, T = toM os l q := ⟨_, rfl⟩
      obtain ⟨xl, hxl⟩ : ∃ n, n = (os.getD q default).f.length := ⟨_, rfl⟩
      obtain ⟨bq, hbq⟩ : ∃ b, b = l.getD q false := ⟨_, rfl⟩
      rw [← hT, ← hxl, ← hbq] at hts
      rw [← hxl] at d3 hxf
      rw [← hbq] at cb
      rw [← hT]
      have HTS := hid hts
      have hbd : toM os l (q + 1) ≤ 1099511627776 := by unfold atO at htl hta; omega
      clear d2 dU hT hxl hbq htl hta
      cases bq
      · clear hts hbd
        have e1 : toM os l (q + 1) = T := HTS.out
        go_wp2_with fail
        exact ⟨⟨q + 1, by omega, by rw [e1], by go_num, hb⟩, by simp [intOf] <;> omega⟩
      · have e1 : toM os l (q + 1) = T + (1 + xl) := HTS.out
        have hbd2 : T + (1 + xl) ≤ 1099511627776 := by rw [← e1]; exact hbd
        clear hts hbd
        go_wp2_with fail
        exact ⟨⟨q + 1, by omega, by rw [e1]; go_num, by go_num, hb⟩, by simp [intOf] <;> omega⟩
    · obtain rfl : q = ls.length := by omega
      go_wp2_with fail
      go_ret
      exact ⟨rfl, Bt HB1.out hb.out⟩
/-- Numbers in a row. -/
def nz (l : List Nat) : List Value := l.map (fun (n : Nat) => Value.int .i64 (n : Int))
def NR (g : Nat) (l : List Nat) (w : World) : Prop := w.heap[g]? = some (.cells (nz l).toArray 3 (0, 0))
theorem NR.get {g : Nat} {l : List Nat} {w : World} (h : NR g l w) {i : Nat} (hi : i < l.length) : w.cell? ⟨g, i, none⟩ = some (.int .i64 (l.getD i 0 : Nat)) := by
  rw [blk_cell h]
  simp [nz, List.getElem?_map, List.getElem?_eq_getElem hi, List.getD_eq_getElem?_getD]
theorem NR.set {g : Nat} {l : List Nat} {w : World} (h : NR g l w) (i n : Nat) : NR g (l.set i n) (w.setCell ⟨g, i, none⟩ (.int .i64 (n : Int))) := by
  unfold NR
  rw [blk_set (i := i) h (.int .i64 (n : Int))]
  simp [nz, List.map_set]
theorem NR.on {g : Nat} {l : List Nat} {w w' : World} (h : NR g l w) (hb : Below w.heap.size w w') : NR g l w' := (hb.block g (Array.getElem?_eq_some_iff.1 h).1).trans h
def toL (os : List Ob) (l : List Bool) : List Nat := (List.range os.length).map (toM os l)
theorem toL_get {os : List Ob} {l : List Bool} {i : Nat} (h : i < os.length) : (toL os l).getD i 0 = toM os l i := by
  unfold toL; rw [List.getD_eq_getElem?_getD, List.getElem?_map, List.getElem?_range h]; rfl
theorem toL_length (os : List Ob) (l : List Bool) : (toL os l).length = os.length := by unfold toL; simp
set_option maxHeartbeats 8000000 in
theorem rmoved_any {B g : Nat} {N : Int} {vL : Value} {ls : List (Ob × Sl)} (l : List Bool) (gb gt : Nat) (z : Int) (hz : U64 z) (w : World) (h : RH B g N vL ls w) (hl : l.length = ls.length) (hb : BR gb l w) (ht : NR gt (toL (ls.map Prod.fst) l) w) :
    Calls Try.prog 38 #[.pointer (some ⟨g, 0, none⟩), .slice (some ⟨gb, 0, none⟩) ls.length ls.length, .slice (some ⟨gt, 0, none⟩) ls.length ls.length, .int .u64 z] w fun e w' => e = .returned (.int .u64 (movedM (ls.map Prod.fst) l z)) ∧ Below w.heap.size w w' := by
  have hrm := h.room
  have hll : ls.length ≤ 1099511627776 := by have := len_le_used (ls.map Prod.fst); rw [List.length_map] at this; omega
  have C1 := hid (rfind_any z hz w h)
  have HBR := hid hb
  have HNR := hid ht
  have hlo : (ls.map Prod.fst).length = ls.length := List.length_map _
  obtain ⟨os, hos⟩ : ∃ os, os = ls.map Prod.fst := ⟨_, rfl⟩
  rw [← hos] at C1 hlo hrm HNR ⊢
  have hmv : Hid (movedM os l z = match findM os z with | some k => if l.getD k false then wordR 2 (toM os l k : Nat) 0 else z | none => z) := rfl
  clear hos h hb ht
  cases hf : findM os z with
  | none =>
    rw [hf] at C1 hmv
    simp only [optI] at C1 hmv
    clear hf
    go_enter Try.func38, Try.ntmps38
    go_wp2_with (go_at_call 45; (with_reducible refine C1.out.mono ?_); rintro e W3 ⟨rfl, b3⟩)
    go_ret
    rw [hmv.out]
    exact ⟨rfl, b3⟩
  | some k =>
    have hk := (findM_lt hf).1
    rw [hf] at C1 hmv
    simp only [optI] at C1 hmv
    have h1 := toM_le (os := os) (l := l) (by omega) (i := k) (by omega)
    have h2 := used_take_le os k
    have HGT := toL_get (l := l) hk
    have hkl : k < l.length := by omega
    have hkt : k < (toL os l).length := by rw [toL_length]; exact hk
    rw [hlo] at hk
    obtain ⟨T, hT⟩ : ∃ T, T = toM os l k := ⟨_, rfl⟩
    rw [← hT] at hmv h1 HGT
    have C2 := hid (rptr_any T (by omega))
    obtain ⟨bk, hbk⟩ : ∃ b, b = l.getD k false := ⟨_, rfl⟩
    rw [← hbk] at hmv
    have HBK := hid hbk
    have HGG := hid HGT
    have HKL := hid hkl
    have HKT := hid hkt
    clear hf hbk hT HGT hkl hkt h1 h2
    cases bk
    · go_enter Try.func38, Try.ntmps38
      go_wp2_with (go_at_call 45; (with_reducible refine C1.out.mono ?_); rintro e W3 ⟨rfl, b3⟩; have g3 := (HBR.out.on b3).get HKL.out; rw [← HBK.out] at g3)
      go_ret
      rw [hmv.out]
      exact ⟨rfl, b3⟩
    · go_enter Try.func38, Try.ntmps38
      go_wp2_with (first
        | (go_at_call 45; (with_reducible refine C1.out.mono ?_); rintro e W3 ⟨rfl, b3⟩; have g3 := (HBR.out.on b3).get HKL.out; rw [← HBK.out] at g3; have g4 := (HNR.out.on b3).get HKT.out; rw [HGG.out] at g4)
        | (go_at_call 23; (with_reducible refine (C2.out _).mono ?_); rintro e W4 ⟨rfl, b4⟩))
      go_ret
      rw [hmv.out]
      exact ⟨rfl, Bt b3 b4⟩
end Go.Proofs.Ythgkonjglappjaa
