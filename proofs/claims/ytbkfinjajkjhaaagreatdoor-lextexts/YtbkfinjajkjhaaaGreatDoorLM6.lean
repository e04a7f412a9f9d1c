import Derived.Test.YtbkfinjajkjhaaaGreatDoorLM5
set_option linter.unusedVariables false
set_option linter.unusedSimpArgs false
set_option maxRecDepth 100000
namespace Go.Proofs.YtbkfinjajkjhaaaGreatDoor
open Go.RowKit
theorem decodeString_any (s : ByteArray) (w : World) (hs : s.size ≠ 0) (hT : LTabs w) : Calls Tryz.prog 129 #[.string s] w fun e w' => e = .returned (.tuple #[.int .i32 (decN (bs s)).1, .int .i64 (decN (bs s)).2]) /\ Below w.heap.size w w' := by
 have h := Any.utf8_DecodeRuneInString Tryz.lays197 s w hT.utf
 have e := decGo_is (bs_lt s) (r := bs s) (fun e => hs (by have := bs_length s; rw [e] at this; exact this.symm))
 rw [bstr_bs] at e
 rw [e] at h
 exact h
def nmF (t : List Nat) : Nat -> Option Nat
 | 0 => if t = [115, 112, 97, 99, 101] then some 32 else if t = [110, 101, 119, 108, 105, 110, 101] then some 10 else if t = [116, 97, 98] then some 9 else if t = [114, 101, 116, 117, 114, 110] then some 13 else if t = [110, 117, 108, 108] then some 0 else if t.getD 0 0 = 120 then numH (t.drop 1) else none
 | 1 => if t = [110, 101, 119, 108, 105, 110, 101] then some 10 else if t = [116, 97, 98] then some 9 else if t = [114, 101, 116, 117, 114, 110] then some 13 else if t = [110, 117, 108, 108] then some 0 else if t.getD 0 0 = 120 then numH (t.drop 1) else none
 | 2 => if t = [116, 97, 98] then some 9 else if t = [114, 101, 116, 117, 114, 110] then some 13 else if t = [110, 117, 108, 108] then some 0 else if t.getD 0 0 = 120 then numH (t.drop 1) else none
 | 3 => if t = [114, 101, 116, 117, 114, 110] then some 13 else if t = [110, 117, 108, 108] then some 0 else if t.getD 0 0 = 120 then numH (t.drop 1) else none
 | 4 => if t = [110, 117, 108, 108] then some 0 else if t.getD 0 0 = 120 then numH (t.drop 1) else none
 | _ => if t.getD 0 0 = 120 then numH (t.drop 1) else none
theorem letM_is {t : List Nat} (hd : Dg 256 t) (hv : Vd t) (h : t ≠ []) : letM t = if (decN t).2 = t.length then some (decN t).1 else nmF t 0 := by
 have e := runeL_dec hd
 rw [if_neg (hv.first h)] at e
 unfold letM
 rw [if_neg h, e]
 rfl
theorem index_ln0 (W : World) : (Instr.index 68 (.agg #[.string ⟨#[115, 112, 97, 99, 101]⟩, .int .i32 32, .string ⟨#[110, 101, 119, 108, 105, 110, 101]⟩, .int .i32 10, .string ⟨#[116, 97, 98]⟩, .int .i32 9, .string ⟨#[114, 101, 116, 117, 114, 110]⟩, .int .i32 13, .string ⟨#[110, 117, 108, 108]⟩, .int .i32 0]) (.int .i64 0)).run Tryz.prog W = .ok (.agg #[.string ⟨#[115, 112, 97, 99, 101]⟩, .int .i32 32]) W := by simp [Instr.index, run_underlying Tryz.underlying68, asIntOf, go_sem]
theorem index_ln1 (W : World) : (Instr.index 68 (.agg #[.string ⟨#[115, 112, 97, 99, 101]⟩, .int .i32 32, .string ⟨#[110, 101, 119, 108, 105, 110, 101]⟩, .int .i32 10, .string ⟨#[116, 97, 98]⟩, .int .i32 9, .string ⟨#[114, 101, 116, 117, 114, 110]⟩, .int .i32 13, .string ⟨#[110, 117, 108, 108]⟩, .int .i32 0]) (.int .i64 1)).run Tryz.prog W = .ok (.agg #[.string ⟨#[110, 101, 119, 108, 105, 110, 101]⟩, .int .i32 10]) W := by simp [Instr.index, run_underlying Tryz.underlying68, asIntOf, go_sem]
theorem index_ln2 (W : World) : (Instr.index 68 (.agg #[.string ⟨#[115, 112, 97, 99, 101]⟩, .int .i32 32, .string ⟨#[110, 101, 119, 108, 105, 110, 101]⟩, .int .i32 10, .string ⟨#[116, 97, 98]⟩, .int .i32 9, .string ⟨#[114, 101, 116, 117, 114, 110]⟩, .int .i32 13, .string ⟨#[110, 117, 108, 108]⟩, .int .i32 0]) (.int .i64 2)).run Tryz.prog W = .ok (.agg #[.string ⟨#[116, 97, 98]⟩, .int .i32 9]) W := by simp [Instr.index, run_underlying Tryz.underlying68, asIntOf, go_sem]
theorem index_ln3 (W : World) : (Instr.index 68 (.agg #[.string ⟨#[115, 112, 97, 99, 101]⟩, .int .i32 32, .string ⟨#[110, 101, 119, 108, 105, 110, 101]⟩, .int .i32 10, .string ⟨#[116, 97, 98]⟩, .int .i32 9, .string ⟨#[114, 101, 116, 117, 114, 110]⟩, .int .i32 13, .string ⟨#[110, 117, 108, 108]⟩, .int .i32 0]) (.int .i64 3)).run Tryz.prog W = .ok (.agg #[.string ⟨#[114, 101, 116, 117, 114, 110]⟩, .int .i32 13]) W := by simp [Instr.index, run_underlying Tryz.underlying68, asIntOf, go_sem]
theorem index_ln4 (W : World) : (Instr.index 68 (.agg #[.string ⟨#[115, 112, 97, 99, 101]⟩, .int .i32 32, .string ⟨#[110, 101, 119, 108, 105, 110, 101]⟩, .int .i32 10, .string ⟨#[116, 97, 98]⟩, .int .i32 9, .string ⟨#[114, 101, 116, 117, 114, 110]⟩, .int .i32 13, .string ⟨#[110, 117, 108, 108]⟩, .int .i32 0]) (.int .i64 4)).run Tryz.prog W = .ok (.agg #[.string ⟨#[110, 117, 108, 108]⟩, .int .i32 0]) W := by simp [Instr.index, run_underlying Tryz.underlying68, asIntOf, go_sem]
theorem test_lit (s : ByteArray) (l : List UInt8) : (l == s.toList) = decide (bs s = l.map UInt8.toNat) := by rw [<- test_str, BEq.comm]
set_option maxHeartbeats 4000000 in
theorem letterOf_any (s : ByteArray) (w : World) (hs : s.size <= 1000000) (h0 : s.size ≠ 0) (hv : Vd (bs s)) (hT : LTabs w) : Calls Tryz.prog 101 #[.string s] w fun e w' => e = .returned (hexV (letM (bs s))) /\ Below w.heap.size w w' := by
 have hl := bs_length s
 have hne : bs s ≠ [] := fun e => h0 (by rw [e] at hl; exact hl.symm)
 have C := hid (decodeString_any s w h0 hT)
 obtain ⟨A, hA⟩ : ∃ A, A = letM (bs s) := ⟨_, rfl⟩
 rw [<- hA]
 rw [letM_is (bs_lt s) hv hne, hl] at hA
 have h120 : (decN (bs s)).1 = 120 ↔ (bs s).getD 0 0 = 120 := by
  rcases Nat.lt_or_ge ((bs s).getD 0 0) 128 with h | h
  ·rw [decN_low h]
  ·have := (decN_high hne h).1; omega
 have h121 : (bs s).getD 0 0 = 120 -> (decN (bs s)).2 = 1 := fun h => by rw [decN_low (by omega)]
 have hle := (decN_le hne)
 rw [hl] at hle
 obtain ⟨c, hc⟩ : ∃ c, c = (decN (bs s)).1 := ⟨_, rfl⟩
 obtain ⟨z, hz⟩ : ∃ z, z = (decN (bs s)).2 := ⟨_, rfl⟩
 rw [<- hc, <- hz] at C hA
 rw [<- hc] at h120
 rw [<- hz] at h121 hle
 by_cases g : z = s.size
 ·rw [if_pos g] at hA
  have HA : Hid (A = some c) := hA
  have t1 : ((z : Int) == (s.size : Int)) = true := by simp; omega
  clear hA h120 h121 hle g hc hz hv hT hl
  go_enter Tryz.func101, Tryz.ntmps101
  go_wp2_with (go_at_call 129; with_reducible refine C.out.mono ?_; rintro e wa ⟨rfl, ba⟩)
  go_ret2
  exact ⟨by rw [HA.out]; rfl, ba⟩
 ·rw [if_neg g] at hA
  have t1 : ((z : Int) == (s.size : Int)) = false := by simp; omega
  have HA : Hid (A = nmF (bs s) 0) := hA
  have HT := hid hT
  have H120 := hid h120
  have H121 := hid h121
  have HLe := hid hle
  have f1 := hid (test_lit s [115, 112, 97, 99, 101])
  have f2 := hid (test_lit s [110, 101, 119, 108, 105, 110, 101])
  have f3 := hid (test_lit s [116, 97, 98])
  have f4 := hid (test_lit s [114, 101, 116, 117, 114, 110])
  have f5 := hid (test_lit s [110, 117, 108, 108])
  clear hA h120 h121 hle g hc hz hv hT hl
  go_enter Tryz.func101, Tryz.ntmps101
  go_wp2_with fail
  go_at_call 129
  with_reducible refine C.out.mono ?_
  rintro e wa ⟨rfl, ba⟩
  have HB := hid ba
  have HTa := hid (HT.out.below ba)
  have cl := HTa.out.nm
  have c0 := cl 0 _ rfl
  have c1 := cl 1 _ rfl
  have c2 := cl 2 _ rfl
  have c3 := cl 3 _ rfl
  have c4 := cl 4 _ rfl
  have c5 := cl 5 _ rfl
  have c6 := cl 6 _ rfl
  have c7 := cl 7 _ rfl
  have c8 := cl 8 _ rfl
  have c9 := cl 9 _ rfl
  clear ba cl
  go_wp2_with fail
  go_loopg [19] (6) (fun g v wx => ∃ j : Nat, v = .int .i64 j /\ j <= 5 /\ g = 6 - j /\ Hid (Below w.heap.size w wx) /\ Hid (A = nmF (bs s) j))
  case atStart => exact ⟨0, rfl, by omega, rfl, HB.out, HA.out⟩
  case round =>
   obtain ⟨j, rfl, hj, rfl, hB, hI⟩ := hrel
   clear HB HA
   have HSz := size_alloc wr
   rcases (by omega : j = 0 \/ j = 1 \/ j = 2 \/ j = 3 \/ j = 4 \/ j = 5) with rfl | rfl | rfl | rfl | rfl | rfl
   ·have HF := f1.out
    have hix := index_ln0
    have hnm0 : nmF (bs s) 0 = if bs s = [115, 112, 97, 99, 101] then some 32 else nmF (bs s) 1 := rfl
    by_cases n1 : bs s = [115, 112, 97, 99, 101]
    ·have e1 : Hid (A = some 32) := by unfold Hid; rw [hI.out, hnm0, if_pos n1]
     rw [show decide (bs s = List.map UInt8.toNat [115, 112, 97, 99, 101]) = true from decide_eq_true n1] at HF
     clear n1 hI f1 f2 f3 f4 f5
     go_wp2_with fail
     go_ret2
     exact ⟨by rw [e1.out]; rfl, hB.out.trans ((Ba wr _).mono hB.out.size)⟩
    ·have e1 : Hid (A = nmF (bs s) 1) := by unfold Hid; rw [hI.out, hnm0, if_neg n1]
     rw [show decide (bs s = List.map UInt8.toNat [115, 112, 97, 99, 101]) = false from decide_eq_false n1] at HF
     clear n1 hI f1 f2 f3 f4 f5
     go_wp2_with fail
     go_roundg (6 - 1)
     case measure => omega
     case rel => exact ⟨1, by go_num, by omega, rfl, hB.out.trans ((Ba wr _).mono hB.out.size), e1.out⟩
   ·have HF := f2.out
    have hix := index_ln1
    have hnm1 : nmF (bs s) 1 = if bs s = [110, 101, 119, 108, 105, 110, 101] then some 10 else nmF (bs s) 2 := rfl
    by_cases n1 : bs s = [110, 101, 119, 108, 105, 110, 101]
    ·have e1 : Hid (A = some 10) := by unfold Hid; rw [hI.out, hnm1, if_pos n1]
     rw [show decide (bs s = List.map UInt8.toNat [110, 101, 119, 108, 105, 110, 101]) = true from decide_eq_true n1] at HF
     clear n1 hI f1 f2 f3 f4 f5
     go_wp2_with fail
     go_ret2
     exact ⟨by rw [e1.out]; rfl, hB.out.trans ((Ba wr _).mono hB.out.size)⟩
    ·have e1 : Hid (A = nmF (bs s) 2) := by unfold Hid; rw [hI.out, hnm1, if_neg n1]
     rw [show decide (bs s = List.map UInt8.toNat [110, 101, 119, 108, 105, 110, 101]) = false from decide_eq_false n1] at HF
     clear n1 hI f1 f2 f3 f4 f5
     go_wp2_with fail
     go_roundg (6 - 2)
     case measure => omega
     case rel => exact ⟨2, by go_num, by omega, rfl, hB.out.trans ((Ba wr _).mono hB.out.size), e1.out⟩
   ·have HF := f3.out
    have hix := index_ln2
    have hnm2 : nmF (bs s) 2 = if bs s = [116, 97, 98] then some 9 else nmF (bs s) 3 := rfl
    by_cases n1 : bs s = [116, 97, 98]
    ·have e1 : Hid (A = some 9) := by unfold Hid; rw [hI.out, hnm2, if_pos n1]
     rw [show decide (bs s = List.map UInt8.toNat [116, 97, 98]) = true from decide_eq_true n1] at HF
     clear n1 hI f1 f2 f3 f4 f5
     go_wp2_with fail
     go_ret2
     exact ⟨by rw [e1.out]; rfl, hB.out.trans ((Ba wr _).mono hB.out.size)⟩
    ·have e1 : Hid (A = nmF (bs s) 3) := by unfold Hid; rw [hI.out, hnm2, if_neg n1]
     rw [show decide (bs s = List.map UInt8.toNat [116, 97, 98]) = false from decide_eq_false n1] at HF
     clear n1 hI f1 f2 f3 f4 f5
     go_wp2_with fail
     go_roundg (6 - 3)
     case measure => omega
     case rel => exact ⟨3, by go_num, by omega, rfl, hB.out.trans ((Ba wr _).mono hB.out.size), e1.out⟩
   ·have HF := f4.out
    have hix := index_ln3
    have hnm3 : nmF (bs s) 3 = if bs s = [114, 101, 116, 117, 114, 110] then some 13 else nmF (bs s) 4 := rfl
    by_cases n1 : bs s = [114, 101, 116, 117, 114, 110]
    ·have e1 : Hid (A = some 13) := by unfold Hid; rw [hI.out, hnm3, if_pos n1]
     rw [show decide (bs s = List.map UInt8.toNat [114, 101, 116, 117, 114, 110]) = true from decide_eq_true n1] at HF
     clear n1 hI f1 f2 f3 f4 f5
     go_wp2_with fail
     go_ret2
     exact ⟨by rw [e1.out]; rfl, hB.out.trans ((Ba wr _).mono hB.out.size)⟩
    ·have e1 : Hid (A = nmF (bs s) 4) := by unfold Hid; rw [hI.out, hnm3, if_neg n1]
     rw [show decide (bs s = List.map UInt8.toNat [114, 101, 116, 117, 114, 110]) = false from decide_eq_false n1] at HF
     clear n1 hI f1 f2 f3 f4 f5
     go_wp2_with fail
     go_roundg (6 - 4)
     case measure => omega
     case rel => exact ⟨4, by go_num, by omega, rfl, hB.out.trans ((Ba wr _).mono hB.out.size), e1.out⟩
   ·have HF := f5.out
    have hix := index_ln4
    have hnm4 : nmF (bs s) 4 = if bs s = [110, 117, 108, 108] then some 0 else nmF (bs s) 5 := rfl
    by_cases n1 : bs s = [110, 117, 108, 108]
    ·have e1 : Hid (A = some 0) := by unfold Hid; rw [hI.out, hnm4, if_pos n1]
     rw [show decide (bs s = List.map UInt8.toNat [110, 117, 108, 108]) = true from decide_eq_true n1] at HF
     clear n1 hI f1 f2 f3 f4 f5
     go_wp2_with fail
     go_ret2
     exact ⟨by rw [e1.out]; rfl, hB.out.trans ((Ba wr _).mono hB.out.size)⟩
    ·have e1 : Hid (A = nmF (bs s) 5) := by unfold Hid; rw [hI.out, hnm4, if_neg n1]
     rw [show decide (bs s = List.map UInt8.toNat [110, 117, 108, 108]) = false from decide_eq_false n1] at HF
     clear n1 hI f1 f2 f3 f4 f5
     go_wp2_with fail
     go_roundg (6 - 5)
     case measure => omega
     case rel => exact ⟨5, by go_num, by omega, rfl, hB.out.trans ((Ba wr _).mono hB.out.size), e1.out⟩
   ·have hI5 : Hid (A = if (bs s).getD 0 0 = 120 then numH ((bs s).drop 1) else none) := hI.out
    by_cases n1 : (bs s).getD 0 0 = 120
    ·have e1 : Hid (A = numH ((bs s).drop 1)) := by unfold Hid; rw [hI5.out, if_pos n1]
     obtain rfl := H120.out.2 n1
     obtain rfl := H121.out n1
     have hz := HLe.out.2.2
     have hz' : ((1 : Nat) : Int) <= (s.size : Int) := by omega
     have hsz : (s.extract 1 s.size).size = s.size - 1 := by rw [ByteArray.size_extract]; omega
     have CH := hid (fun W (h : Below w.heap.size w W) => hexLetter_any (s.extract 1 s.size) W (by omega) (HT.out.below h))
     rw [bs_extract] at CH
     obtain ⟨B, hBB⟩ : ∃ B, B = numH ((bs s).drop 1) := ⟨_, rfl⟩
     rw [<- hBB] at CH e1
     clear hBB n1 hI f1 f2 f3 f4 f5 hI5 H120 H121 HLe
     go_wp2_with fail
     with_reducible refine (CH.out wr hB.out).mono ?_
     rintro e wb ⟨rfl, bb⟩
     have HBb := hid (hB.out.trans (bb.mono hB.out.size))
     clear bb
     unfold hexV
     go_wp2_with fail
     go_ret2
     exact ⟨by rw [e1.out]; rfl, HBb.out⟩
    ·have e1 : Hid (A = none) := by unfold Hid; rw [hI5.out, if_neg n1]
     have t2 : ((c : Int) == 120) = false := by simp; have := mt H120.out.1 n1; omega
     clear n1 hI f1 f2 f3 f4 f5 hI5
     go_wp2_with fail
     go_ret2
     exact ⟨by rw [e1.out]; rfl, hB.out⟩
end Go.Proofs.YtbkfinjajkjhaaaGreatDoor
namespace Go.Proofs.YtbkfinjajkjhaaaGreatDoor
theorem dlmB_low {c : Nat} (h : dlmB c = true) : c < 128 := by
 rcases Nat.lt_or_ge c 128 with h1 | h1
 ·exact h1
 ·rw [dlmB_high' h1] at h; cases h
theorem wordN_stops : ∀ r : List Nat, wordN r < r.length -> dlmB (r.getD (wordN r) 0) = true
 | [], h => by simp at h
 | c :: r, h => by
  unfold wordN at h ⊢
  by_cases hc : dlmB c = true
  ·rw [if_pos hc]; exact hc
  ·rw [if_neg hc] at h ⊢
   have := wordN_stops r (by simpa using h)
   simpa using this
theorem wordN_bnd (r : List Nat) : Bnd r (wordN r) := by
 have h := wordN_le r
 rcases Nat.lt_or_ge (wordN r) r.length with h1 | h1
 ·exact .inr (.inr (.inl (dlmB_low (wordN_stops r h1))))
 ·exact .inr (.inl (by omega))
theorem Vd.front {r : List Nat} (h : Vd r) (hr : r ≠ []) : Vd (r.take ((decN r).2 + wordN (r.drop (decN r).2))) := by
 have hd := h.first hr
 have hl := decN_le hr
 have hw := wordN_le (r.drop (decN r).2)
 rw [List.length_drop] at hw
 have e := decN_take hr hd (k := (decN r).2 + wordN (r.drop (decN r).2)) (by omega) (by omega)
 have hne : r.take ((decN r).2 + wordN (r.drop (decN r).2)) ≠ [] := by
  intro e
  have h5 := congrArg List.length e
  rw [List.length_take, List.length_nil] at h5
  omega
 refine .step hne (by rw [e]; exact hd) ?_
 rw [e, List.drop_take, show (decN r).2 + wordN (r.drop (decN r).2) - (decN r).2 = wordN (r.drop (decN r).2) by omega]
 exact (h.tail hr).take _ (by rw [List.length_drop]; omega) (wordN_bnd _)
theorem charM_is {l : List Nat} (hd : Dg 256 l) (hv : Vd (l.drop 2)) : charM l = if l.length <= 2 then none
 else (letM ((l.drop 2).take ((decN (l.drop 2)).2 + wordN (l.drop (2 + (decN (l.drop 2)).2))))).map (fun n => (n, 2 + (decN (l.drop 2)).2 + wordN (l.drop (2 + (decN (l.drop 2)).2)))) := by
 unfold charM
 by_cases h : l.length <= 2
 ·rw [if_pos h, if_pos h]
 ·rw [if_neg h, if_neg h]
  have hne : l.drop 2 ≠ [] := by intro e; have := congrArg List.length e; rw [List.length_drop] at this; simp at this; omega
  have e := runeL_dec (hd.drop 2)
  rw [if_neg (hv.first hne)] at e
  rw [e]
end Go.Proofs.YtbkfinjajkjhaaaGreatDoor
