import Derived.Test.YtbkfinjajkjhaabGreatDoorLV5
import Derived.Test.YtbkfinjajkjhaabGreatDoorLM11
import Derived.Test.YtbkfinjajkjhaabGreatDoorLV4
import Derived.Test.YtbkfinjajkjhaabGreatDoorW15
set_option linter.unusedVariables false
set_option linter.unusedSimpArgs false
set_option maxRecDepth 100000
namespace Go.Proofs.YtbkfinjajkjhaabGreatDoor
open Go.RowKit
def byteVs (l : List Nat) : Array Value := (l.map (fun (x : Nat) => Value.int .u8 (x : Int))).toArray
theorem const_row (w : World) (l : List Nat) (n : Nat) (hn : l.length = n) (hd : Dg 256 l) (hs : n <= 1000000) (fr : Nat × Nat) : BRow (w.alloc (.cells (byteVs l) 5 fr)) (some ⟨w.heap.size, 0, none⟩) n n l := by
 refine ⟨hn, Nat.le_refl _, by unfold maxLen; omega, fun e => (by cases e), hd, .inr ⟨w.heap.size, 0, rfl, by rw [size_alloc]; omega, fun i hi => ?_⟩⟩
 rw [Nat.zero_add, Go.Joins.cell_alloc_mark_at w _ _ _ _ _ rfl]
 unfold byteVs
 rw [List.getElem?_toArray, List.getElem?_map, List.getElem?_eq_getElem hi, List.getD_eq_getElem?_getD, List.getElem?_eq_getElem hi]
 rfl
def ex1 : List Nat := [40, 97, 32, 46, 32, 34, 98, 34, 41]
def ex2 : List Nat := [35, 92, 120, 52, 49, 32, 49, 97]
def ex3 : List Nat := [32, 91]
theorem ex1_is : ∃ L, ansM ex1 = (L, 0, 0) /\ L.length = 6 /\ (L.getD 2 default).kind = 6 /\ (L.getD 3 default).text = ⟨#[98]⟩ := ⟨(ansM ex1).1, by kernel_rfl, by kernel_rfl, by kernel_rfl, by kernel_rfl⟩
theorem ex2_is : ∃ L, ansM ex2 = (L, 0, 0) /\ L.length = 3 /\ (L.getD 0 default).num = 65 /\ (L.getD 1 default).kind = 14 := ⟨(ansM ex2).1, by kernel_rfl, by kernel_rfl, by kernel_rfl, by kernel_rfl⟩
theorem ex3_is : ansM ex3 = ([], 31, 1) := by kernel_rfl
theorem tokens_const (l : List Nat) (n : Nat) (hn : l.length = n) (hd : Dg 256 l) (hs : n <= 1000) (w W : World) (hT : LTabs w) (hB : Below w.heap.size w W) (fr : Nat × Nat) :
  Calls Tryz.prog 5 #[.slice (some ⟨W.heap.size, 0, none⟩) n n] (W.alloc (.cells (byteVs l) 5 fr)) fun e w' => ∃ ao m cap, e = .returned (.tuple #[.slice ao m cap, .int .i64 (ansM l).2.1, .int .i64 (ansM l).2.2]) /\ TRow w' ao m cap (ansM l).1 /\ Below W.heap.size W w' := by
 have hR := const_row W l n hn hd (by omega) fr
 refine (tokens_any _ n n l _ hR ((hT.below hB).below (Ba W _)) (by omega)).mono fun e w' h => ?_
 obtain ⟨ao, m, cap, h1, h2, h3⟩ := h
 exact ⟨ao, m, cap, h1, h2, Bt (Ba W _) h3⟩
set_option maxHeartbeats 8000000 in
theorem lawake_any (w : World) (hT : LTabs w) : Calls Tryz.prog 6 #[] w fun e w' => e = .returned (.bool true) /\ Below w.heap.size w w' := by
 obtain ⟨L1, e1, n1, k1, t1⟩ := ex1_is
 obtain ⟨L2, e2, n2, k2, t2⟩ := ex2_is
 have e3 := ex3_is
 have hc1 : ∀ W, _ := fun W => Go.Joins.run_convert_bytes_const_at (P := Tryz.prog) W 22 5 (byteVs ex1) 9 9 W.heap.size rfl Tryz.underlying22 Tryz.underlying5
 have hc2 : ∀ W, _ := fun W => Go.Joins.run_convert_bytes_const_at (P := Tryz.prog) W 22 5 (byteVs ex2) 8 8 W.heap.size rfl Tryz.underlying22 Tryz.underlying5
 have hc3 : ∀ W, _ := fun W => Go.Joins.run_convert_bytes_const_at (P := Tryz.prog) W 22 5 (byteVs ex3) 2 2 W.heap.size rfl Tryz.underlying22 Tryz.underlying5
 have b1 : byteVs ex1 = #[.int .u8 40, .int .u8 97, .int .u8 32, .int .u8 46, .int .u8 32, .int .u8 34, .int .u8 98, .int .u8 34, .int .u8 41] := rfl
 have b2 : byteVs ex2 = #[.int .u8 35, .int .u8 92, .int .u8 120, .int .u8 52, .int .u8 49, .int .u8 32, .int .u8 49, .int .u8 97] := rfl
 have b3 : byteVs ex3 = #[.int .u8 32, .int .u8 91] := rfl
 have C1 := hid (fun W h fr => tokens_const ex1 9 rfl (by unfold ex1; intro x hx; simp at hx; omega) (by omega) w W hT h fr)
 have C2 := hid (fun W h fr => tokens_const ex2 8 rfl (by unfold ex2; intro x hx; simp at hx; omega) (by omega) w W hT h fr)
 have C3 := hid (fun W h fr => tokens_const ex3 2 rfl (by unfold ex3; intro x hx; simp at hx; omega) (by omega) w W hT h fr)
 rw [b1] at hc1 C1
 rw [b2] at hc2 C2
 rw [b3] at hc3 C3
 rw [e1] at C1
 rw [e2] at C2
 rw [e3] at C3
 have HK1 := hid k1
 have HK2 := hid k2
 have HT1 := hid t1
 have HT2 := hid t2
 have HN1 := hid n1
 have HN2 := hid n2
 have hv1 := hc1 w
 clear b1 b2 b3 e1 e2 e3 k1 k2 t1 t2 n1 n2 hc1
 go_enter Tryz.func6, Tryz.ntmps6
 go_wp2_with fail
 go_at_call 5
 with_reducible refine (C1.out w (Below.refl _ _) _).mono ?_
 rintro e wa ⟨ao1, m1, cap1, rfl, R1, ba⟩
 have HR1 := hid R1
 have HBa := hid ba
 have hv2 := hc2 wa
 clear R1 ba hv1 hc2 C1
 go_wp2_with fail
 go_at_call 5
 with_reducible refine (C2.out wa HBa.out _).mono ?_
 rintro e wb ⟨ao2, m2, cap2, rfl, R2, bb⟩
 have HR2 := hid R2
 have HBb := hid (Bt HBa.out bb)
 have HR1b := hid (HR1.out.below bb)
 have hv3 := hc3 wb
 clear R2 bb hv2 hc3 C2
 go_wp2_with fail
 go_at_call 5
 with_reducible refine (C3.out wb HBb.out _).mono ?_
 rintro e wc ⟨ao3, m3, cap3, rfl, R3, bc⟩
 have HBc := hid (Bt HBb.out bc)
 have HR1c := hid (HR1b.out.below bc)
 have HR2c := hid (HR2.out.below bc)
 clear R3 bc hv3 C3
 obtain rfl : m1 = 6 := by rw [<- HR1c.out.len]; exact HN1.out
 obtain rfl : m2 = 3 := by rw [<- HR2c.out.len]; exact HN2.out
 obtain ⟨p1, o1, rfl, hp1, hc1⟩ := HR1c.out.some (by omega)
 obtain ⟨p2, o2, rfl, hp2, hc2⟩ := HR2c.out.some (by omega)
 have x1 := hc1 2 (by omega) 0 (by omega)
 have x2 := hc1 3 (by omega) 2 (by omega)
 have x3 := hc2 0 (by omega) 1 (by omega)
 have x4 := hc2 1 (by omega) 0 (by omega)
 simp only [tc, List.getElem?_cons_zero, List.getElem?_cons_succ, HK1.out, HK2.out, HT1.out, HT2.out, Nat.add_zero, Nat.reduceMul, Nat.zero_mul, Nat.one_mul] at x1 x2 x3 x4
 clear hc1 hc2
 go_wp2_with fail
 go_ret
 exact ⟨rfl, HBc.out⟩
theorem rep_vd : ∀ n : Nat, Vd (List.replicate n 40)
 | 0 => .nil
 | n + 1 => by
  have h : decN (List.replicate (n + 1) 40) = (40, 1) := by
   rw [decN_low (by rw [List.replicate_succ]; show 40 < 128; decide), List.replicate_succ]; rfl
  refine .step (by rw [List.replicate_succ]; exact List.cons_ne_nil _ _) (by rw [h]; decide) ?_
  rw [h, List.replicate_succ, List.drop_succ_cons, List.drop_zero]
  exact rep_vd n
theorem rep_get {n k : Nat} (h : k < n) : (List.replicate n 40).getD k 0 = 40 := by
 rw [List.getD_eq_getElem?_getD, List.getElem?_replicate, if_pos h]; rfl
theorem rep_drop (n k : Nat) : (List.replicate n 40).drop k = List.replicate (n - k) 40 := List.drop_replicate
theorem rep_sk {n k : Nat} (h : k < n) : skL (List.replicate n 40) k = (k, true) := by
 have hb : hasB ((List.replicate n 40).drop k) [35, 124] = false := by
  rw [rep_drop]
  obtain ⟨m, hm⟩ : ∃ m, n - k = m + 1 := ⟨n - k - 1, by omega⟩
  rw [hm, List.replicate_succ]
  unfold hasB
  apply decide_eq_false
  intro e
  have := congrArg (fun x => List.getD x 0 0) e
  simp at this
 rw [skL_go (by rw [List.length_replicate]; exact h), rep_get h, if_neg (by decide), if_neg (by decide), hb]
 rfl
theorem rep_toks (n : Nat) : ∀ (f k : Nat), k <= n -> n < k + f -> (toksA f (List.replicate n 40) k).1.length = n - k + 1 /\ (toksA f (List.replicate n 40) k).2 = none
 | 0, k, h, h2 => by omega
 | f + 1, k, h, h2 => by
  by_cases hk : k < n
  ·have hs := rep_sk hk
   have ht : tkM ((List.replicate n 40).drop k) = some (1, 0, ⟨#[]⟩, 1) := by
    have h0 : ((List.replicate n 40).drop k).getD 0 0 = 40 := by rw [getD_drop, Nat.add_zero, rep_get hk]
    unfold tkM
    rw [if_pos h0]
   have e := toksA_some (f := f) (l := List.replicate n 40) (k := k) (x := (1, 0, ⟨#[]⟩, 1)) (by rw [hs]) (by rw [hs, List.length_replicate]; simp; omega) (by rw [hs]; exact ht)
   rw [hs] at e
   obtain ⟨i1, i2⟩ := rep_toks n f (k + 1) (by omega) (by omega)
   rw [e]
   exact ⟨by show (toksA f _ (k + 1)).1.length + 1 = _; rw [i1]; omega, i2⟩
  ·have e : k = n := by omega
   have hs : skL (List.replicate n 40) k = (k, true) := skL_end (by rw [List.length_replicate]; omega)
   rw [toksA_end (by rw [hs]) (by rw [hs, List.length_replicate]; omega)]
   exact ⟨by simp; omega, rfl⟩
theorem rep_dg (n : Nat) : Dg 256 (List.replicate n 40) := by intro x hx; rw [List.mem_replicate] at hx; omega
theorem rep_ans (n : Nat) (hn : n <= 65536) : ∃ L, ansM (List.replicate n 40) = (L, 0, 0) /\ L.length = n + 1 := by
 have hb := (valid_vd (rep_dg n)).2 (rep_vd n)
 obtain ⟨i1, i2⟩ := rep_toks n (n + 1) 0 (by omega) (by omega)
 have e1 : toksM (List.replicate n 40) = toksA (n + 1) (List.replicate n 40) 0 := by unfold toksM; rw [List.length_replicate]
 refine ⟨(toksM (List.replicate n 40)).1, ?_, ?_⟩
 ·unfold ansM
  rw [if_neg (by rw [List.length_replicate]; omega), hb]
  simp only
  rw [e1, i2]
 ·rw [e1, i1]; omega
theorem long_ans {l : List Nat} (h : l.length = 65537) : ansM l = ([], 50, 0) := by
 unfold ansM; rw [if_pos (by omega)]
theorem getD_zeros (N i : Nat) : (List.replicate N 0).getD i 0 = 0 := by
 rw [List.getD_eq_getElem?_getD, List.getElem?_replicate]
 split <;> rfl
theorem made_win (w : World) (k : IntKind) (e : TypeId) (N : Nat) : Win k e (w.alloc (.cells (madeCells #[.int k 0] N) e)) w.heap.size 0 N (madeCells #[.int k 0] N) (List.replicate N 0) := by
 refine ⟨blk_new _ _ _, by rw [size_madeCells]; omega, by simp, fun i hi => ?_⟩
 rw [Nat.zero_add, <- Array.getElem?_toList, toList_madeCells_one, List.getElem?_replicate, if_pos hi, getD_zeros]
 rfl
end Go.Proofs.YtbkfinjajkjhaabGreatDoor
