import Derived.Test.YtbkfinjajkjhaaaGreatDoorLX10
import Derived.Test.YtbkfinjajkjhaaaGreatDoorRL10
set_option linter.unusedVariables false
set_option linter.unusedSimpArgs false
set_option maxRecDepth 100000
namespace Go.Proofs.YtbkfinjajkjhaaaGreatDoor
open Go.RowKit
def PTok (w : World) (r : Option Tkn) (e : Ending) (w' : World) : Prop :=
 ∃ k n t f o, ∃ q : Nat, e = .returned (.tuple #[tkV k n t f o, .int .i64 q]) /\ (r = none -> q = 0) /\ (∀ x, r = some x -> k = x.1 /\ n = x.2.1 /\ t = x.2.2.1 /\ q = x.2.2.2) /\ Below w.heap.size w w'
theorem PTok.no {w w' : World} {k n : Int} {t : ByteArray} {f o : Int} (h : Below w.heap.size w w') : PTok w none (.returned (.tuple #[tkV k n t f o, .int .i64 0])) w' := ⟨k, n, t, f, o, 0, rfl, fun _ => rfl, fun x h => (by cases h), h⟩
theorem PTok.yes {w w' : World} {k n : Int} {t : ByteArray} {f o q' : Int} {q : Nat} (hq : q' = q) (h : Below w.heap.size w w') : PTok w (some (k, n, t, q)) (.returned (.tuple #[tkV k n t f o, .int .i64 q'])) w' := ⟨k, n, t, f, o, q, by rw [hq], fun h => (by cases h), fun x h => (by cases h; exact ⟨rfl, rfl, rfl, rfl⟩), h⟩
def hwM (r : List Nat) : Option Tkn :=
 match truthM (r.take (wordN r)) with
 | some n => some (10, n, ⟨#[]⟩, wordN r)
 | none => if r.take (wordN r) = [35, 117, 56] /\ wordN r < r.length /\ r.getD (wordN r) 0 = 40 then some (4, 0, ⟨#[]⟩, wordN r + 1) else none
set_option maxHeartbeats 8000000 in
theorem cutHashWord_any (ao : Option Addr) (n cap : Nat) (l : List Nat) (w : World) (R : BRow w ao n cap l) (hT : LTabs w) (hn : 0 < n) : Calls Tryz.prog 85 #[.slice ao n cap] w (PTok w (hwM l)) := by
 have HB0 : Hid (Below w.heap.size w (w.alloc (.cells #[.int .i64 0, .int .i64 0, .string ⟨#[]⟩, .int .i64 0, .int .i64 0] 31))) := Ba w _
 have RA := R.below HB0.out
 have CW := hid (wordSize_any ao n cap l _ RA (hT.below HB0.out))
 obtain ⟨A, hA⟩ : ∃ A, A = hwM l := ⟨_, rfl⟩
 rw [<- hA]
 obtain ⟨m, hm⟩ : ∃ m, m = wordN l := ⟨_, rfl⟩
 have hml := wordN_le l
 rw [<- hm, R.len] at hml
 unfold hwM at hA
 rw [<- hm] at hA CW
 obtain ⟨T, hTt⟩ : ∃ T, T = bstr (l.take m) := ⟨_, rfl⟩
 have hbt : bs T = l.take m := by rw [hTt, bs_bstr (R.dg.take m)]
 rw [<- hbt, R.len] at hA
 have hcap := R.fits
 have HCV : Hid (∀ W, Below w.heap.size w W -> (convert 22 9 (.slice (adv ao cap 0) m cap)).run Tryz.prog W = .ok (.string T) W) := fun W hW => by
  rw [hTt]; exact conv_any ((R.below hW).front hml)
 have hsl := fun W => slice_front (w := W) (ao := ao) (n := n) (cap := cap) (m := m) (by omega)
 have hsl2 := fun W => sliceAt_front (w := W) (ao := ao) (n := n) (cap := cap) (m := m) (by omega)
 obtain ⟨ax, hax⟩ : ∃ a, a = adv ao cap 0 := ⟨_, rfl⟩
 rw [<- hax] at HCV hsl hsl2
 have g1 := test_str T [35, 116]
 have g2 := test_str T [35, 116, 114, 117, 101]
 have g3 := test_str T [35, 102]
 have g4 := test_str T [35, 102, 97, 108, 115, 101]
 have g5 := test_str T [35, 117, 56]
 obtain ⟨b, o, rfl, hb, hc⟩ := R.rd.some (by rw [R.len]; exact hn)
 have hrm := R.most
 unfold maxLen at hrm
 have HLn := hid R.len
 have HC : Hid (∀ W, Below w.heap.size w W -> m < n -> W.cell? ⟨b, o + m, none⟩ = some (.int .u8 (l.getD m 0 : Nat))) := fun W hW h => (hW.cell (p := ⟨b, o + m, none⟩) hb).trans (hc m (by rw [R.len]; exact h))
 have HA := hid hA
 have HX : Hid (∀ W, Below (w.heap.size + 1) (w.alloc (.cells #[.int .i64 0, .int .i64 0, .string ⟨#[]⟩, .int .i64 0, .int .i64 0] 31)) W -> TxW w W) := fun W h => ⟨(TkBox.new w).on (by rw [size_alloc]; exact h), HB0.out.trans (h.mono (by omega))⟩
 rw [size_alloc] at CW
 clear hA hm hbt hTt hax R RA hc hT
 go_enter Tryz.func85, Tryz.ntmps85
 go_wp2_with fail
 go_at_call 86
 with_reducible refine CW.out.mono ?_
 rintro e wa ⟨rfl, ba⟩
 have HW := hid (HX.out wa ba)
 have hcv := HCV.out wa HW.out.2
 obtain ⟨⟨c0, c1, c2, c3, c4⟩, f0, f1', f2, f3, f4⟩ := HW.out.1.facts
 have hcell := HC.out wa HW.out.2
 clear ba
 unfold truthM at HA
 by_cases n0 : bs T = [35, 116]
 ·rw [show decide (bs T = List.map UInt8.toNat [35, 116]) = true from decide_eq_true n0] at g1
  have HA2 : Hid (A = some (10, 1, ⟨#[]⟩, m)) := by unfold Hid; rw [HA.out, n0]; rfl
  clear HA n0 g2 g3 g4 g5 hcell
  go_wp2_with fail
  rw [HA2.out]
  exact bodyPost_ret (v := .tuple #[tkV 10 1 ⟨#[]⟩ 0 0, .int .i64 m]) (by simp [results, Tryz.results85, go_sem, tkV, c0, c1, c2, c3, c4]) rfl (PTok.yes rfl (below_set5 HW.out.2 (Nat.le_refl _) _ _ _ _ _))
 rw [show decide (bs T = List.map UInt8.toNat [35, 116]) = false from decide_eq_false n0] at g1
 by_cases n1 : bs T = [35, 116, 114, 117, 101]
 ·rw [show decide (bs T = List.map UInt8.toNat [35, 116, 114, 117, 101]) = true from decide_eq_true n1] at g2
  have HA2 : Hid (A = some (10, 1, ⟨#[]⟩, m)) := by unfold Hid; rw [HA.out, n1]; rfl
  clear HA n1 g3 g4 g5 hcell
  go_wp2_with fail
  rw [HA2.out]
  exact bodyPost_ret (v := .tuple #[tkV 10 1 ⟨#[]⟩ 0 0, .int .i64 m]) (by simp [results, Tryz.results85, go_sem, tkV, c0, c1, c2, c3, c4]) rfl (PTok.yes rfl (below_set5 HW.out.2 (Nat.le_refl _) _ _ _ _ _))
 rw [show decide (bs T = List.map UInt8.toNat [35, 116, 114, 117, 101]) = false from decide_eq_false n1] at g2
 by_cases n2 : bs T = [35, 102]
 ·rw [show decide (bs T = List.map UInt8.toNat [35, 102]) = true from decide_eq_true n2] at g3
  have HA2 : Hid (A = some (10, 0, ⟨#[]⟩, m)) := by unfold Hid; rw [HA.out, n2]; rfl
  clear HA n2 g4 g5 hcell
  go_wp2_with fail
  rw [HA2.out]
  exact bodyPost_ret (v := .tuple #[tkV 10 0 ⟨#[]⟩ 0 0, .int .i64 m]) (by simp [results, Tryz.results85, go_sem, tkV, c0, c1, c2, c3, c4]) rfl (PTok.yes rfl (below_set5 HW.out.2 (Nat.le_refl _) _ _ _ _ _))
 rw [show decide (bs T = List.map UInt8.toNat [35, 102]) = false from decide_eq_false n2] at g3
 by_cases n3 : bs T = [35, 102, 97, 108, 115, 101]
 ·rw [show decide (bs T = List.map UInt8.toNat [35, 102, 97, 108, 115, 101]) = true from decide_eq_true n3] at g4
  have HA2 : Hid (A = some (10, 0, ⟨#[]⟩, m)) := by unfold Hid; rw [HA.out, n3]; rfl
  clear HA n3 g5 hcell
  go_wp2_with fail
  rw [HA2.out]
  exact bodyPost_ret (v := .tuple #[tkV 10 0 ⟨#[]⟩ 0 0, .int .i64 m]) (by simp [results, Tryz.results85, go_sem, tkV, c0, c1, c2, c3, c4]) rfl (PTok.yes rfl (below_set5 HW.out.2 (Nat.le_refl _) _ _ _ _ _))
 rw [show decide (bs T = List.map UInt8.toNat [35, 102, 97, 108, 115, 101]) = false from decide_eq_false n3] at g4
 have HA2 : Hid (A = if bs T = [35, 117, 56] /\ m < n /\ l.getD m 0 = 40 then some (4, 0, ⟨#[]⟩, m + 1) else none) := by
  unfold Hid; rw [HA.out, if_neg (fun h => h.elim n0 n1), if_neg (fun h => h.elim n2 n3)]
 clear HA n0 n1 n2 n3
 by_cases n5 : bs T = [35, 117, 56]
 ·rw [show decide (bs T = List.map UInt8.toNat [35, 117, 56]) = true from decide_eq_true n5] at g5
  by_cases hlt : m < n
  ·have hcv2 := hcell hlt
   clear hcell
   have hcell := hcv2
   clear hcv2
   have m0 : (0 : Int) <= (m : Int) := by omega
   have m1 : (m : Int) < (n : Int) := by omega
   obtain ⟨x, hx⟩ : ∃ x, x = l.getD m 0 := ⟨_, rfl⟩
   rw [<- hx] at hcell HA2
   by_cases h40 : x = 40
   ·have t1 : ((x : Int) == 40) = true := by simp; omega
    have HA3 : Hid (A = some (4, 0, ⟨#[]⟩, m + 1)) := HA2.out.trans (if_pos ⟨n5, hlt, h40⟩)
    clear HA2 n5 hx h40
    go_wp2_with fail
    rw [HA3.out]
    exact bodyPost_ret (v := .tuple #[tkV 4 0 ⟨#[]⟩ 0 0, .int .i64 ((m : Int) + 1)]) (by simp [results, Tryz.results85, go_sem, tkV, c0, c1, c2, c3, c4]) rfl (PTok.yes (by omega) (below_set5 HW.out.2 (Nat.le_refl _) _ _ _ _ _))
   ·have t1 : ((x : Int) == 40) = false := by simp; omega
    have HA3 : Hid (A = none) := HA2.out.trans (if_neg (fun h => h40 h.2.2))
    clear HA2 n5 hx h40
    go_wp2_with fail
    rw [HA3.out]
    exact bodyPost_ret (v := .tuple #[tkV 0 0 ⟨#[]⟩ 0 0, .int .i64 0]) (by simp [results, Tryz.results85, go_sem, tkV, c0, c1, c2, c3, c4]) rfl (PTok.no (below_set5 HW.out.2 (Nat.le_refl _) _ _ _ _ _))
  ·have m1 : ¬ (m : Int) < (n : Int) := by omega
   have HA3 : Hid (A = none) := HA2.out.trans (if_neg (fun h => hlt h.2.1))
   clear HA2 n5 hcell
   go_wp2_with fail
   rw [HA3.out]
   exact bodyPost_ret (v := .tuple #[tkV 0 0 ⟨#[]⟩ 0 0, .int .i64 0]) (by simp [results, Tryz.results85, go_sem, tkV, c0, c1, c2, c3, c4]) rfl (PTok.no (below_set5 HW.out.2 (Nat.le_refl _) _ _ _ _ _))
 ·rw [show decide (bs T = List.map UInt8.toNat [35, 117, 56]) = false from decide_eq_false n5] at g5
  have HA3 : Hid (A = none) := HA2.out.trans (if_neg (fun h => n5 h.1))
  clear HA2 n5 hcell
  go_wp2_with fail
  rw [HA3.out]
  exact bodyPost_ret (v := .tuple #[tkV 0 0 ⟨#[]⟩ 0 0, .int .i64 0]) (by simp [results, Tryz.results85, go_sem, tkV, c0, c1, c2, c3, c4]) rfl (PTok.no (below_set5 HW.out.2 (Nat.le_refl _) _ _ _ _ _))
end Go.Proofs.YtbkfinjajkjhaaaGreatDoor
