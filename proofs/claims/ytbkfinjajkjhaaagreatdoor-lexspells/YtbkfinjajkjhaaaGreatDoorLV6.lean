import Derived.Test.YtbkfinjajkjhaaaGreatDoorLV5
import Derived.Test.YtbkfinjajkjhaaaGreatDoorLV1
import Derived.Test.YtbkfinjajkjhaaaGreatDoorW5
import Derived.Test.YtbkfinjajkjhaaaGreatDoorW42
import Derived.Laws.IdiomStrings
import Derived.Deep.RegionHeld3
set_option linter.unusedVariables false
set_option linter.unusedSimpArgs false
set_option maxRecDepth 100000
namespace Go.Proofs.YtbkfinjajkjhaaaGreatDoor
open Go.RowKit
def byteVs (l : List Nat) : Array Value := (l.map (fun (x : Nat) => Value.int .u8 (x : Int))).toArray
theorem const_row (w : World) (l : List Nat) (n : Nat) (hn : l.length = n) (hd : Dg 256 l) (hs : n <= 1000000) (fr : Nat × Nat) : BRow (w.alloc (.cells (byteVs l) 5 fr)) (some ⟨w.heap.size, 0, none⟩) n n l := by
 refine ⟨hn, Nat.le_refl _, by unfold maxLen; omega, fun e => (by cases e), hd, .inr ⟨w.heap.size, 0, rfl, by rw [size_alloc]; omega, fun i hi => ?_⟩⟩
 rw [Nat.zero_add, Go.Joins.cell_alloc_mark_at w _ _ _ _ _ rfl]
 unfold byteVs
 rw [List.getElem?_toArray, List.getElem?_map, List.getElem?_eq_getElem hi, List.getD_eq_getElem?_getD, List.getElem?_eq_getElem hi]
 rfl
end Go.Proofs.YtbkfinjajkjhaaaGreatDoor
namespace Go.Proofs.YtbkfinjajkjhaaaGreatDoor
open Go.RowKit
def ex1 : List Nat := [40, 97, 32, 46, 32, 34, 98, 34, 41]
def ex2 : List Nat := [35, 92, 120, 52, 49, 32, 49, 97]
def ex3 : List Nat := [32, 91]
theorem ex1_is : ∃ L, ansM ex1 = (L, 0, 0) /\ L.length = 6 /\ (L.getD 2 default).kind = 6 /\ (L.getD 3 default).text = ⟨#[98]⟩ := ⟨(ansM ex1).1, by kernel_rfl, by kernel_rfl, by kernel_rfl, by kernel_rfl⟩
theorem ex2_is : ∃ L, ansM ex2 = (L, 0, 0) /\ L.length = 3 /\ (L.getD 0 default).num = 65 /\ (L.getD 1 default).kind = 14 := ⟨(ansM ex2).1, by kernel_rfl, by kernel_rfl, by kernel_rfl, by kernel_rfl⟩
theorem ex3_is : ansM ex3 = ([], 31, 1) := by kernel_rfl
theorem tokens_const (l : List Nat) (n : Nat) (hn : l.length = n) (hd : Dg 256 l) (hs : n <= 1000) (w W : World) (hT : LTabs w) (hB : Below w.heap.size w W) (fr : Nat × Nat) :
  Calls Tryz.prog 9 #[.slice (some ⟨W.heap.size, 0, none⟩) n n] (W.alloc (.cells (byteVs l) 5 fr)) fun e w' => ∃ ao m cap, e = .returned (.tuple #[.slice ao m cap, .int .i64 (ansM l).2.1, .int .i64 (ansM l).2.2]) /\ TRow w' ao m cap (ansM l).1 /\ Below W.heap.size W w' := by
 have hR := const_row W l n hn hd (by omega) fr
 refine (tokens_any _ n n l _ hR ((hT.below hB).below (Ba W _)) (by omega)).mono fun e w' h => ?_
 obtain ⟨ao, m, cap, h1, h2, h3⟩ := h
 exact ⟨ao, m, cap, h1, h2, Bt (Ba W _) h3⟩
set_option maxHeartbeats 8000000 in
theorem lawake_any (w : World) (hT : LTabs w) : Calls Tryz.prog 12 #[] w fun e w' => e = .returned (.bool true) /\ Below w.heap.size w w' := by
 obtain ⟨L1, e1, n1, k1, t1⟩ := ex1_is
 obtain ⟨L2, e2, n2, k2, t2⟩ := ex2_is
 have e3 := ex3_is
 have hc1 : ∀ W, _ := fun W => Go.Joins.run_convert_bytes_const_at (P := Tryz.prog) W 22 5 (byteVs ex1) 9 9 W.heap.size rfl Tryz.underlying22 Tryz.underlying5
 have hc2 : ∀ W, _ := fun W => Go.Joins.run_convert_bytes_const_at (P := Tryz.prog) W 22 5 (byteVs ex2) 8 8 W.heap.size rfl Tryz.underlying22 Tryz.underlying5
 have hc3 : ∀ W, _ := fun W => Go.Joins.run_convert_bytes_const_at (P := Tryz.prog) W 22 5 (byteVs ex3) 2 2 W.heap.size rfl Tryz.underlying22 Tryz.underlying5
 have b1 : byteVs ex1 = #[.int .u8 40, .int .u8 97, .int .u8 32, .int .u8 46, .int .u8 32, .int .u8 34, .int .u8 98, .int .u8 34, .int .u8 41] := rfl
 have b2 : byteVs ex2 = #[.int .u8 35, .int .u8 92, .int .u8 120, .int .u8 52, .int .u8 49, .int .u8 32, .int .u8 49, .int .u8 97] := rfl
 have b3 : byteVs ex3 = #[.int .u8 32, .int .u8 91] := rfl
 have C1 := hid (fun W h fr => tokens_const ex1 9 rfl (by unfold ex1; intro x hx; simp at hx; omega) (by omega) w W hT h fr)
 have C2 := hid (fun W h fr => tokens_const ex2 8 rfl (by unfold ex2; intro x hx; simp at hx; omega) (by omega) w W hT h fr)
 have C3 := hid (fun W h fr => tokens_const ex3 2 rfl (by unfold ex3; intro x hx; simp at hx; omega) (by omega) w W hT h fr)
 rw [b1] at hc1 C1
 rw [b2] at hc2 C2
 rw [b3] at hc3 C3
 rw [e1] at C1
 rw [e2] at C2
 rw [e3] at C3
 have HK1 := hid k1
 have HK2 := hid k2
 have HT1 := hid t1
 have HT2 := hid t2
 have HN1 := hid n1
 have HN2 := hid n2
 have hv1 := hc1 w
 clear b1 b2 b3 e1 e2 e3 k1 k2 t1 t2 n1 n2 hc1
 go_enter Tryz.func12, Tryz.ntmps12
 go_wp2_with fail
 go_at_call 9
 with_reducible refine (C1.out w (Below.refl _ _) _).mono ?_
 rintro e wa ⟨ao1, m1, cap1, rfl, R1, ba⟩
 have HR1 := hid R1
 have HBa := hid ba
 have hv2 := hc2 wa
 clear R1 ba hv1 hc2 C1
 go_wp2_with fail
 go_at_call 9
 with_reducible refine (C2.out wa HBa.out _).mono ?_
 rintro e wb ⟨ao2, m2, cap2, rfl, R2, bb⟩
 have HR2 := hid R2
 have HBb := hid (Bt HBa.out bb)
 have HR1b := hid (HR1.out.below bb)
 have hv3 := hc3 wb
 clear R2 bb hv2 hc3 C2
 go_wp2_with fail
 go_at_call 9
 with_reducible refine (C3.out wb HBb.out _).mono ?_
 rintro e wc ⟨ao3, m3, cap3, rfl, R3, bc⟩
 have HBc := hid (Bt HBb.out bc)
 have HR1c := hid (HR1b.out.below bc)
 have HR2c := hid (HR2.out.below bc)
 clear R3 bc hv3 C3
 obtain rfl : m1 = 6 := by rw [<- HR1c.out.len]; exact HN1.out
 obtain rfl : m2 = 3 := by rw [<- HR2c.out.len]; exact HN2.out
 obtain ⟨p1, o1, rfl, hp1, hc1⟩ := HR1c.out.some (by omega)
 obtain ⟨p2, o2, rfl, hp2, hc2⟩ := HR2c.out.some (by omega)
 have x1 := hc1 2 (by omega) 0 (by omega)
 have x2 := hc1 3 (by omega) 2 (by omega)
 have x3 := hc2 0 (by omega) 1 (by omega)
 have x4 := hc2 1 (by omega) 0 (by omega)
 simp only [tc, List.getElem?_cons_zero, List.getElem?_cons_succ, HK1.out, HK2.out, HT1.out, HT2.out, Nat.add_zero, Nat.reduceMul, Nat.zero_mul, Nat.one_mul] at x1 x2 x3 x4
 clear hc1 hc2
 go_wp2_with fail
 go_ret
 exact ⟨rfl, HBc.out⟩
end Go.Proofs.YtbkfinjajkjhaaaGreatDoor
namespace Go.Proofs.YtbkfinjajkjhaaaGreatDoor
theorem two_one {r : List Nat} {a b : Nat} (h : hasB r [a, b] = true) : r.getD 0 0 = a /\ r.getD 1 0 = b := by
 rw [hasB_two0] at h
 exact (of_decide_eq_true h).2
end Go.Proofs.YtbkfinjajkjhaaaGreatDoor
namespace Go.Proofs.YtbkfinjajkjhaaaGreatDoor
inductive Gq : List Nat -> Nat -> Prop
 | nil (r : List Nat) : Gq r 0
 | step {r : List Nat} {m : Nat} (h0 : gapN r ≠ 0) (ht : Gq (r.drop (gapN r)) m) : Gq r (gapN r + m)
def Ng (r : List Nat) : Prop := gapN r = 0 /\ hasB r [35, 124] = false
theorem skL_gq {l : List Nat} : ∀ (f k : Nat), l.length <= k + f -> k <= l.length -> (skL l k).2 = true -> ∃ m, (skL l k).1 = k + m /\ Gq (l.drop k) m /\ Ng (l.drop (k + m))
 | 0, k, h, hk, h2 => by
  have hd : l.drop k = [] := List.drop_eq_nil_of_le (by omega)
  refine ⟨0, ?_, .nil _, ?_⟩
  ·rw [skL_end (by omega)]; rfl
  ·rw [Nat.add_zero, hd]; exact ⟨rfl, rfl⟩
 | f + 1, k, h, hk, h2 => by
  obtain ⟨g1, g2, g3⟩ := skL_gap (l := l) hk
  by_cases hg : gapN (l.drop k) = 0
  ·refine ⟨0, (g1 hg).1, .nil _, hg, ?_⟩
   rw [Nat.add_zero]
   cases hb : hasB (l.drop k) [35, 124] with
   | false => rfl
   | true =>
    exfalso
    by_cases hkl : k < l.length
    ·rw [skL_go hkl] at h2
     unfold gapN at hg
     have hne : l.drop k ≠ [] := by intro e; rw [e] at hb; exact absurd hb (by decide)
     have e0 : (l.drop k).getD 0 0 = l.getD k 0 := by rw [getD_drop]; rfl
     rw [if_neg hne, e0] at hg
     by_cases b1 : blkB (l.getD k 0) = true
     ·rw [if_pos b1] at hg; cases hg
     ·rw [if_neg b1] at hg h2
      by_cases b2 : l.getD k 0 = 59
      ·have := (two_one hb).1
       rw [e0] at this; omega
      ·rw [if_neg b2, if_pos hb] at hg h2
       rw [rm_first hb] at hg
       rw [remL_remN (by omega)] at h2
       cases he : remN (l.drop k) with
       | none => rw [he] at h2; cases h2
       | some e => rw [he] at hg; have := (remN_pos he).1; simp at hg; omega
    ·rw [List.drop_eq_nil_of_le (by omega)] at hb; exact absurd hb (by decide)
  ·rw [g2 hg] at h2 ⊢
   obtain ⟨m, m1, m2, m3⟩ := skL_gq f (k + gapN (l.drop k)) (by omega) g3 h2
   refine ⟨gapN (l.drop k) + m, by omega, .step hg (by rw [List.drop_drop]; exact m2), by rw [<- Nat.add_assoc]; exact m3⟩
abbrev Ky := Int × Int × ByteArray
def kyT (x : Tkn) : Ky := (x.1, x.2.1, x.2.2.1)
def ky (x : Tok) : Ky := (x.kind, x.num, x.text)
def kyE : Ky := (0, 0, ⟨#[]⟩)
inductive Sq : List Nat -> List Ky -> Prop
 | nil {r : List Nat} (h : Gq r r.length) : Sq r []
 | cons {r : List Nat} {q : Nat} {x : Tkn} {L : List Ky} (hg : Gq r q) (hq : q < r.length) (hx : tkM (r.drop q) = some x) (ht : Sq (r.drop (q + x.2.2.2)) L) : Sq r (kyT x :: L)
theorem toks_sq : ∀ (f : Nat) (l : List Nat) (k : Nat) (T : List Tok), l.length < k + f -> k <= l.length -> toksA f l k = (T, none) -> ∃ L, Sq (l.drop k) L /\ T.map ky = L ++ [kyE]
 | 0, l, k, T, h, hk, e => by omega
 | f + 1, l, k, T, h, hk, e => by
  unfold toksA at e
  by_cases h2 : (skL l k).2 = false
  ·rw [if_pos h2] at e; cases e
  ·rw [if_neg h2] at e
   obtain ⟨m, m1, m2, m3⟩ := skL_gq (l := l) l.length k (by omega) hk (by simpa using h2)
   have hle := skL_le (l := l) hk
   by_cases h3 : l.length <= (skL l k).1
   ·rw [if_pos h3] at e
    cases e
    refine ⟨[], .nil ?_, rfl⟩
    rw [List.length_drop, show l.length - k = m by omega]; exact m2
   ·rw [if_neg h3] at e
    cases h4 : tkM (l.drop (skL l k).1) with
    | none => rw [h4] at e; cases e
    | some x =>
     rw [h4] at e
     simp only [Prod.mk.injEq] at e
     obtain ⟨e1, e2⟩ := e
     have hne : l.drop (skL l k).1 ≠ [] := by intro e; have := congrArg List.length e; rw [List.length_drop, List.length_nil] at this; omega
     have hx := tkM_le hne h4
     rw [List.length_drop] at hx
     obtain ⟨L, s1, s2⟩ := toks_sq f l ((skL l k).1 + x.2.2.2) _ (by omega) (by omega) (Prod.ext rfl e2)
     refine ⟨kyT x :: L, ?_, ?_⟩
     ·refine .cons m2 (by rw [List.length_drop]; omega) (x := x) ?_ ?_
      ·rw [List.drop_drop, <- m1]; exact h4
      ·rw [List.drop_drop, <- Nat.add_assoc, <- m1]; exact s1
     ·rw [<- e1, List.map_cons, s2]; rfl
theorem ans_sq {l : List Nat} {T : List Tok} {p : Int} (hd : Dg 256 l) (h : ansM l = (T, 0, p)) : l.length <= 65536 /\ Vd l /\ p = 0 /\ toksA (l.length + 1) l 0 = (T, none) /\ ∃ L, Sq l L /\ T.map ky = L ++ [kyE] := by
 unfold ansM at h
 by_cases h1 : 65536 < l.length
 ·rw [if_pos h1] at h; cases h
 ·rw [if_neg h1] at h
  cases h2 : badM l with
  | some q => rw [h2] at h; cases h
  | none =>
   rw [h2] at h
   simp only at h
   cases h3 : (toksM l).2 with
   | some q => rw [h3] at h; cases h
   | none =>
    rw [h3] at h
    simp only [Prod.mk.injEq] at h
    have h4 : toksA (l.length + 1) l 0 = (T, none) := Prod.ext h.1 h3
    have := toks_sq _ l 0 T (by omega) (Nat.zero_le _) h4
    rw [List.drop_zero] at this
    exact ⟨by omega, (badM_vd hd).1 h2, h.2.2.symm, h4, this⟩
end Go.Proofs.YtbkfinjajkjhaaaGreatDoor
namespace Go.Proofs.YtbkfinjajkjhaaaGreatDoor
open Go.RowKit
theorem to_bytes (W : World) (X : ByteArray) (l : List Nat) (hX : bs X = l) (hs : X.size <= 1000000) :
  ∃ c W1, (convert 9 22 (.string X)).run Tryz.prog W = .ok (.slice (some ⟨W.heap.size, 0, none⟩) X.size c) W1 /\ BRow W1 (some ⟨W.heap.size, 0, none⟩) X.size c l /\ Below W.heap.size W W1 := by
 have h := run_bytes_of_string (P := Tryz.prog) W 9 22 5 X Tryz.underlying9 Tryz.underlying22 Tryz.underlying5
 refine ⟨_, _, h, ?_, ?_⟩
 ·subst hX
  have hcap := grownCap_ge W X.size 0 5
  have hmost := grownCap_le_maxLen W X.size 0 5 (by unfold maxLen; omega)
  refine ⟨bs_length X, hcap, hmost, fun e => (by cases e), bs_lt X, .inr ⟨W.heap.size, 0, rfl, by rw [size_alloc]; exact Nat.lt_succ_self _, fun i hi => ?_⟩⟩
  rw [bs_length] at hi
  have hb := bytesRow_at X (grownCap W X.size 0 5) i hi
  rw [Nat.zero_add, bs_get X i hi]
  have hcell := Go.Joins.cell_alloc_mark_at W.drew (bytesRow X (grownCap W X.size 0 5)) 5 ((bytesRow X (grownCap W X.size 0 5)).size, (bytesRow X (grownCap W X.size 0 5)).size + 1) W.heap.size i rfl
  rw [hcell]; exact hb
 ·exact Bt (Bd W 1) (Ba _ _)
end Go.Proofs.YtbkfinjajkjhaaaGreatDoor
namespace Go.Proofs.YtbkfinjajkjhaaaGreatDoor
open Go.RowKit
theorem vd_start {r : List Nat} (hv : Vd r) (hr : r ≠ []) (hd : Dg 256 r) : r.getD 0 0 / 64 ≠ 2 := by
 intro h
 apply hv.first hr
 unfold decN Lib.decodeN
 rw [if_neg (by omega), if_neg (by omega), if_neg (by omega), if_neg (by omega)]
theorem start_is : ∀ x : Fin 256, (bits .and .u8 ((x.val : Nat) : Int) 192 == 128) = decide (x.val / 64 = 2) := by decide +kernel
theorem runeStart_any (c : Nat) (w : World) (hc : c < 256) : Calls Tryz.prog 57 #[.int .u8 (c : Int)] w fun e w' => e = .returned (.bool (decide (c / 64 ≠ 2))) /\ w' = w := by
 have h := start_is ⟨c, hc⟩
 simp only at h
 by_cases h2 : c / 64 = 2
 ·rw [decide_eq_true h2] at h
  rw [decide_eq_false (fun e => e h2)]
  clear h2 hc
  go_enter Tryz.func57, Tryz.ntmps57
  go_wp2
  go_ret
  exact ⟨by show Ending.returned (.bool (bits .and .u8 (c : Int) 192 != 128)) = _; rw [bne, h]; rfl, rfl⟩
 ·rw [decide_eq_false h2] at h
  rw [decide_eq_true h2]
  clear h2 hc
  go_enter Tryz.func57, Tryz.ntmps57
  go_wp2
  go_ret
  exact ⟨by show Ending.returned (.bool (bits .and .u8 (c : Int) 192 != 128)) = _; rw [bne, h]; rfl, rfl⟩
def NxPost (w : World) (l : List Nat) (k : Nat) (e : Ending) (w' : World) : Prop :=
 ∃ (a b : Int) (t : ByteArray) (f u er pl : Int), e = .returned (.tuple #[tkV a b t f u, .int .i64 er, .int .i64 pl]) /\ ((chkM l).1 ≠ 0 -> er = (chkM l).1 /\ pl = ((chkM l).2 : Nat)) /\ ((chkM l).1 = 0 -> stepM l k = none -> er = 31 /\ pl = ((skL l k).1 : Nat)) /\
  ((chkM l).1 = 0 -> ∀ x, stepM l k = some x -> er = 0 /\ a = x.kind /\ b = x.num /\ t = x.text /\ f = x.fr /\ u = x.un) /\ Below w.heap.size w w'
set_option maxHeartbeats 8000000 in
theorem next_any (ao : Option Addr) (n cap : Nat) (l : List Nat) (k : Nat) (w : World) (R : BRow w ao n cap l) (hT : LTabs w) (hsm : n <= 1000000) (hk : k <= n) (hb : Bnd l k) : Calls Tryz.prog 33 #[.slice ao n cap, .int .i64 k] w (NxPost w l k) := by
 have HB0 : Hid (Below w.heap.size w (w.alloc (.cells #[.int .i64 0, .int .i64 0, .string ⟨#[]⟩, .int .i64 0, .int .i64 0] 31))) := Ba w _
 have HR := hid R
 have HT := hid hT
 have CK := hid (checked_any ao n cap l _ (R.below HB0.out) (hT.below HB0.out) hsm)
 rw [size_alloc] at CK
 have HX : Hid (∀ W, Below (w.heap.size + 1) (w.alloc (.cells #[.int .i64 0, .int .i64 0, .string ⟨#[]⟩, .int .i64 0, .int .i64 0] 31)) W -> TxW w W) := fun W h => ⟨(TkBox.new w).on (by rw [size_alloc]; exact h), HB0.out.trans (h.mono (by omega))⟩
 by_cases hc : (chkM l).1 = 0
 ·obtain ⟨h1, h2, h3⟩ := chk_ok hc
  rw [h1] at CK
  have CK2 : Hid (Calls Tryz.prog 20 #[.slice ao n cap] (w.alloc (.cells #[.int .i64 0, .int .i64 0, .string ⟨#[]⟩, .int .i64 0, .int .i64 0] 31)) fun e w' => e = .returned (.tuple #[.int .i64 0, .int .i64 0]) /\ Below (w.heap.size + 1) (w.alloc (.cells #[.int .i64 0, .int .i64 0, .string ⟨#[]⟩, .int .i64 0, .int .i64 0] 31)) w') := CK.out
  have hv : Vd l := (valid_vd R.dg).1 h2
  have CC := hid (fun W (h : Below w.heap.size w W) => lexCut_any ao n cap l k W (HR.out.below h) (HT.out.below h) hsm hk hb hv)
  have HC := hid hc
  have hk0 : ¬ (k : Int) < 0 := by omega
  have hk1 : ¬ (n : Int) < (k : Int) := by omega
  have HEnd : Hid (∀ wa wb (a b : Int) (t : ByteArray) (f u er pl : Int) (W : World), Below w.heap.size w wa -> Below wa.heap.size wa wb -> (stepM l k = none -> er = 31 /\ pl = ((skL l k).1 : Nat)) -> (∀ x, stepM l k = some x -> er = 0 /\ a = x.kind /\ b = x.num /\ t = x.text /\ f = x.fr /\ u = x.un) -> W = (((((wb.setCell ⟨w.heap.size, 0, none⟩ (.int .i64 a)).setCell ⟨w.heap.size, 1, none⟩ (.int .i64 b)).setCell ⟨w.heap.size, 2, none⟩ (.string t)).setCell ⟨w.heap.size, 3, none⟩ (.int .i64 f)).setCell ⟨w.heap.size, 4, none⟩ (.int .i64 u)) -> NxPost w l k (.returned (.tuple #[tkV a b t f u, .int .i64 er, .int .i64 pl])) W) := fun wa wb a b t f u er pl W h1 h2 h3 h4 e => ⟨a, b, t, f, u, er, pl, rfl, fun h => absurd HC.out h, fun _ => h3, fun _ => h4, by rw [e]; exact below_set5 (Bt h1 h2) (Nat.le_refl _) _ _ _ _ _⟩
  by_cases hlt : k < n
  ·have hk2 : (k : Int) < (n : Int) := by omega
   have hk3 : (0 : Int) <= (k : Int) := by omega
   obtain ⟨b, o, rfl, hb1, hcl⟩ := R.rd.some (by rw [R.len]; omega)
   have hne : l.drop k ≠ [] := by intro e; have := congrArg List.length e; rw [List.length_drop, R.len, List.length_nil] at this; omega
   have hst := vd_start (hv.drop k (by rw [R.len]; exact hk) hb) hne (R.dg.drop k)
   rw [getD_drop, Nat.add_zero] at hst
   have hx256 : l.getD k 0 < 256 := by rw [List.getD_eq_getElem?_getD, List.getElem?_eq_getElem (by rw [R.len]; exact hlt)]; exact R.dg _ (List.getElem_mem _)
   have hcell := hcl k (by rw [R.len]; exact hlt)
   obtain ⟨c, hcc⟩ : ∃ c, c = l.getD k 0 := ⟨_, rfl⟩
   rw [<- hcc] at hst hx256 hcell
   have HCell := hid hcell
   have CS : Hid (∀ W, Calls Tryz.prog 57 #[.int .u8 (c : Int)] W fun e w' => e = .returned (.bool true) /\ w' = W) := fun W => by
    have := runeStart_any c W hx256
    rwa [decide_eq_true hst] at this
   have hf := R.fits
   have hm := R.most
   unfold maxLen at hm
   have hb1' := hid hb1
   clear R hT HT HR hc h1 h2 h3 hv CK hcl hcell hcc hst hne hb HC hb1
   go_enter Tryz.func33, Tryz.ntmps33
   go_wp2_with fail
   go_at_call 20
   with_reducible refine CK2.out.mono ?_
   rintro e wa ⟨rfl, ba⟩
   have HW := hid (HX.out wa ba)
   have hca : wa.cell? ⟨b, o + k, none⟩ = some (.int .u8 (c : Nat)) := (HW.out.2.cell (p := ⟨b, o + k, none⟩) hb1'.out).trans HCell.out
   have CC2 := hid (CC.out wa HW.out.2)
   clear ba CC CK2
   go_wp2_with (go_at_call 57; with_reducible refine (CS.out _).mono ?_; rintro e wq ⟨rfl, rfl⟩)
   go_at_call 21
   with_reducible refine CC2.out.mono ?_
   rintro e wb ⟨a, b2, t, f, u, er, pl, rfl, hp1, hp2, bb⟩
   have HP1 := hid hp1
   have HP2 := hid hp2
   have HBB := hid bb
   obtain ⟨⟨c0, c1, c2, c3, c4⟩, f0, f1', f2, f3, f4⟩ := (HW.out.1.on bb).facts
   clear bb hp1 hp2 CC2 CS
   unfold tkV
   go_wp2_with fail
   exact bodyPost_ret (v := .tuple #[tkV a b2 t f u, .int .i64 er, .int .i64 pl]) (by simp [results, Tryz.results33, go_sem, tkV, c0, c1, c2, c3, c4]) rfl (HEnd.out wq wb a b2 t f u er pl _ HW.out.2 HBB.out HP1.out HP2.out rfl)
  ·have hk2 : ¬ (k : Int) < (n : Int) := by omega
   clear R hT HT HR hc h1 h2 h3 hv CK hb HC
   go_enter Tryz.func33, Tryz.ntmps33
   go_wp2_with fail
   go_at_call 20
   with_reducible refine CK2.out.mono ?_
   rintro e wa ⟨rfl, ba⟩
   have HW := hid (HX.out wa ba)
   have CC2 := hid (CC.out wa HW.out.2)
   clear ba CC CK2
   go_wp2_with fail
   go_at_call 21
   with_reducible refine CC2.out.mono ?_
   rintro e wb ⟨a, b2, t, f, u, er, pl, rfl, hp1, hp2, bb⟩
   have HP1 := hid hp1
   have HP2 := hid hp2
   have HBB := hid bb
   obtain ⟨⟨c0, c1, c2, c3, c4⟩, f0, f1', f2, f3, f4⟩ := (HW.out.1.on bb).facts
   clear bb hp1 hp2 CC2
   unfold tkV
   go_wp2_with fail
   exact bodyPost_ret (v := .tuple #[tkV a b2 t f u, .int .i64 er, .int .i64 pl]) (by simp [results, Tryz.results33, go_sem, tkV, c0, c1, c2, c3, c4]) rfl (HEnd.out wa wb a b2 t f u er pl _ HW.out.2 HBB.out HP1.out HP2.out rfl)
 ·have HC := hid hc
  obtain ⟨ce, hce⟩ : ∃ c, c = (chkM l).1 := ⟨_, rfl⟩
  obtain ⟨cp, hcp⟩ : ∃ c, c = (chkM l).2 := ⟨_, rfl⟩
  have HE := hid hce
  have HPp := hid hcp
  rw [<- hce, <- hcp] at CK
  rw [<- hce] at hc
  have t1 : (ce == 0) = false := by simp; exact hc
  clear hce hcp hc HR HT R hT hb
  go_enter Tryz.func33, Tryz.ntmps33
  go_wp2_with fail
  go_at_call 20
  with_reducible refine CK.out.mono ?_
  rintro e wa ⟨rfl, ba⟩
  have HW := hid (HX.out wa ba)
  obtain ⟨⟨c0, c1, c2, c3, c4⟩, f0, f1', f2, f3, f4⟩ := HW.out.1.facts
  clear ba CK
  go_wp2_with fail
  exact bodyPost_ret (v := .tuple #[tkV 0 0 ⟨#[]⟩ 0 0, .int .i64 ce, .int .i64 cp]) (by simp [results, Tryz.results33, go_sem, tkV, c0, c1, c2, c3, c4]) rfl ⟨0, 0, ⟨#[]⟩, 0, 0, ce, cp, rfl, fun _ => ⟨HE.out, by rw [HPp.out]⟩, fun h => absurd h HC.out, fun h => absurd h HC.out, below_set5 HW.out.2 (Nat.le_refl _) _ _ _ _ _⟩
end Go.Proofs.YtbkfinjajkjhaaaGreatDoor
