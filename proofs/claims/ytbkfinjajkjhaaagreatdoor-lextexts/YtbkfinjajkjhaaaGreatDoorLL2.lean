import Derived.Test.YtbkfinjajkjhaaaGreatDoorLV1
import Derived.Test.YtbkfinjajkjhaaaGreatDoorRL15
set_option linter.unusedVariables false
set_option linter.unusedSimpArgs false
set_option maxRecDepth 100000
namespace Go.Proofs.YtbkfinjajkjhaaaGreatDoor
open Go.RowKit
theorem ans_chk {l : List Nat} (h : (chkM l).1 ≠ 0) : ansM l = ([], (chkM l).1, (((chkM l).2 : Nat) : Int)) := by
 unfold chkM at h ⊢
 unfold ansM
 by_cases hl : 65536 < l.length
 ·rw [if_pos hl, if_pos hl]; rfl
 ·rw [if_neg hl] at h ⊢
  rw [if_neg hl]
  cases hb : badM l with
  | none => rw [hb] at h; exact absurd rfl h
  | some p => rfl
theorem chk_ok {l : List Nat} (h : (chkM l).1 = 0) : chkM l = (0, 0) /\ badM l = none /\ ansM l = (match (toksM l).2 with
   | some p => ([], 31, ((p : Nat) : Int))
   | none => ((toksM l).1, 0, 0)) := by
 unfold chkM at h ⊢
 unfold ansM
 by_cases hl : 65536 < l.length
 ·rw [if_pos hl] at h; exact absurd h (by decide)
 ·rw [if_neg hl] at h ⊢
  rw [if_neg hl]
  cases hb : badM l with
  | none => exact ⟨rfl, rfl, rfl⟩
  | some p => rw [hb] at h; exact absurd h (by simp)
set_option maxHeartbeats 16000000 in
theorem tokens_any (ao : Option Addr) (n cap : Nat) (l : List Nat) (w : World) (R : BRow w ao n cap l) (hT : LTabs w) (hsm : n <= 1000000) : Calls Tryz.prog 9 #[.slice ao n cap] w (ToksPost w l) := by
 have CK := hid (checked_any ao n cap l w R hT hsm)
 obtain ⟨A, hA⟩ : ∃ A, A = ansM l := ⟨_, rfl⟩
 have HP : Hid (∀ e w', (∃ ao n cap, e = .returned (.tuple #[.slice ao n cap, .int .i64 A.2.1, .int .i64 A.2.2]) /\ TRow w' ao n cap A.1 /\ Below w.heap.size w w') -> ToksPost w l e w') := fun e w' h => by rw [hA] at h; exact h
 have HL : Hid (l.length = n) := R.len
 have HR := hid R
 have HT := hid hT
 have HD : Hid (Dg 256 l) := R.dg
 clear R hT
 refine Calls.mono ?_ HP.out
 clear HP
 by_cases hc : (chkM l).1 = 0
 ·obtain ⟨h1, h2, h3⟩ := chk_ok hc
  rw [h1] at CK
  have HA2 : Hid (A = (match (toksM l).2 with
   | some p => ([], 31, ((p : Nat) : Int))
   | none => ((toksM l).1, 0, 0))) := by unfold Hid; rw [hA, h3]
  have HVd : Hid (Vd l) := (valid_vd HD.out).1 h2
  have CK2 : Hid (Calls Tryz.prog 20 #[.slice ao n cap] w fun e w' => e = .returned (.tuple #[.int .i64 0, .int .i64 0]) /\ Below w.heap.size w w') := CK.out
  have HT0 : Hid (toksM l = ([] ++ (toksA (n + 1) l 0).1, (toksA (n + 1) l 0).2)) := by unfold Hid toksM; rw [HL.out]; rfl
  clear hc h1 h2 h3 hA CK
  go_enter Tryz.func9, Tryz.ntmps9
  go_wp2_with fail
  go_at_call 20
  with_reducible refine CK2.out.mono ?_
  rintro e wa ⟨rfl, ba⟩
  have HB := hid ba
  clear ba CK2
  go_wp2_with fail
  go_loopg [7, 8] (n + 1) (fun g v7 v8 wr => ∃ (acc : List Tok) (k f : Nat) (vo : Value), g = n + 1 - k /\ vo = v7 /\ v8 = .int .i64 k /\ k <= n /\ n < k + f /\ acc.length <= k /\ Hid (Bnd l k) /\ Hid (TOwn w.heap.size wr vo acc) /\ Hid (Below w.heap.size w wr) /\ Hid (toksM l = (acc ++ (toksA f l k).1, (toksA f l k).2)))
  case atStart => exact ⟨[], 0, n + 1, _, rfl, rfl, rfl, Nat.zero_le _, by omega, Nat.le_refl _, .inl rfl, TOwn.nil _ _, HB.out, HT0.out⟩
  case round =>
   obtain ⟨acc, k, f, vo, rfl, rfl, rfl, hk, hf, hacc, hBn, hO, hB, hI⟩ := hrel
   clear HT0 HB
   obtain ⟨f', rfl⟩ : ∃ f', f = f' + 1 := ⟨f - 1, by omega⟩
   have CC := hid (lexCut_any ao n cap l k wr (HR.out.below hB.out) (HT.out.below hB.out) hsm hk hBn.out HVd.out)
   have hkl : k <= l.length := by rw [HL.out]; exact hk
   obtain ⟨S, hS⟩ : ∃ S, S = stepM l k := ⟨_, rfl⟩
   rw [<- hS] at CC
   cases S with
   | none =>
    have e1 : Hid (A = ([], 31, (((skL l k).1 : Nat) : Int))) := by unfold Hid; rw [HA2.out, hI.out, toks_none hkl hS.symm]
    obtain ⟨q, hq⟩ : ∃ q, q = (skL l k).1 := ⟨_, rfl⟩
    rw [<- hq] at CC e1
    clear hI HA2 hS hq hBn hkl HR HT
    go_wp2_with fail
    go_at_call 21
    with_reducible refine CC.out.mono ?_
    rintro e wc ⟨a, b, t, fr, u, er, pl, rfl, hp1, hp2, bc⟩
    obtain ⟨rfl, rfl⟩ := hp1 rfl
    have HB2 : Hid (Below w.heap.size w (wc.alloc (.cells #[.int .i64 a, .int .i64 b, .string t, .int .i64 fr, .int .i64 u] 31))) := Below.trans (hB.out.trans (bc.mono hB.out.size)) ((Ba _ _).mono (Nat.le_trans hB.out.size bc.size))
    clear bc hp1 hp2 CC
    unfold tkV
    go_wp2_with fail
    go_ret3
    exact ⟨none, 0, 0, by rw [e1.out]; rfl, by rw [e1.out]; exact TRow.nil _, HB2.out⟩
   | some x =>
    have hst := step_kind hkl hBn.out hS.symm
    have HLst : Hid (l.length <= (skL l k).1 -> toksA (f' + 1) l k = ([⟨0, 0, ⟨#[]⟩, l.length, l.length⟩], none)) := fun h => step_last hkl hS.symm h
    obtain ⟨q, hq⟩ : ∃ q, q = (skL l k).1 := ⟨_, rfl⟩
    rw [<- hq] at CC HLst hst
    have HST := hid hst
    clear hS hq hBn hkl HR HT hst
    obtain ⟨y1, y2, y3, aa, q5⟩ := x
    go_wp2_with fail
    go_at_call 21
    with_reducible refine CC.out.mono ?_
    rintro e wc ⟨kk, nn, t, xf, xu, er, pl, rfl, hp1, hp2, bc⟩
    obtain ⟨rfl, rfl, rfl, rfl, rfl, rfl⟩ := hp2 _ rfl
    have hw1 : Hid (wr.heap.size <= wc.heap.size) := bc.size
    have HOc := hid (hO.out.below bc)
    have HBc : Hid (Below w.heap.size w wc) := hB.out.trans (bc.mono hB.out.size)
    have HOG : Hid (∀ k, vo.ownBlock = some k -> w.heap.size <= k /\ k < wr.heap.size) := fun k e => hO.out.own_lt _ e
    have HO2 : Hid (∀ ob ob2, TOwn w.heap.size ((wc.alloc ob).alloc ob2) vo acc) := fun ob ob2 => (HOc.out.below (Ba _ _)).below (Ba _ _)
    have HBW : Hid (∀ ob ob2, Below w.heap.size w ((wc.alloc ob).alloc ob2)) := fun ob ob2 => HBc.out.trans ((Baa wc ob ob2).mono HBc.out.size)
    have HN : Hid (∀ ob, ((wc.alloc (.cells #[.int .i64 kk, .int .i64 nn, .string t, .int .i64 aa, .int .i64 q5] 31)).alloc ob).heap[wc.heap.size]? = some (.cells #[.int .i64 kk, .int .i64 nn, .string t, .int .i64 aa, .int .i64 q5] 31)) := fun ob => by
     have h := heap_alloc_new wc (.cells #[.int .i64 kk, .int .i64 nn, .string t, .int .i64 aa, .int .i64 q5] 31)
     exact ((Ba (wc.alloc (.cells #[.int .i64 kk, .int .i64 nn, .string t, .int .i64 aa, .int .i64 q5] 31)) ob).block _ (Array.getElem?_eq_some_iff.1 h).1).trans h
    have HTM : Hid (∀ j u, (tc ⟨kk, nn, t, aa, q5⟩)[j]? = some u -> ((wc.alloc (.cells #[.int .i64 kk, .int .i64 nn, .string t, .int .i64 aa, .int .i64 q5] 31)).alloc (.cells #[.int .i64 kk, .int .i64 nn, .string t, .int .i64 aa, .int .i64 q5] 31)).cell? ⟨wc.heap.size + 1, j, none⟩ = some u) := fun j u hj => by
     have h := blk_new (wc.alloc (.cells #[.int .i64 kk, .int .i64 nn, .string t, .int .i64 aa, .int .i64 q5] 31)) #[.int .i64 kk, .int .i64 nn, .string t, .int .i64 aa, .int .i64 q5] 31
     rw [size_alloc] at h
     exact tok_of h hj
    have hal : acc.length <= 1000000 := by omega
    have HS1 : Hid (∀ ob ob2, w.heap.size <= ((wc.alloc ob).alloc ob2).heap.size) := fun ob ob2 => (HBW.out ob ob2).size
    have HOL : Hid (vo.ownBlock ≠ some wc.heap.size) := fun e => by have := HOG.out _ e; have := hw1.out; omega
    clear bc hp1 hp2 CC hO hB
    unfold tkV
    by_cases hk0 : kk = 0
    ·have e1 : Hid (A = (acc ++ [⟨kk, nn, t, aa, q5⟩], 0, 0)) := by
      unfold Hid
      rcases HST.out with ⟨_, h2, h3⟩ | ⟨h1, _⟩
      ·rw [HA2.out, hI.out, HLst.out h2, h3]
      ·exact absurd hk0 h1
     have t1 : (kk == 0) = true := by simp; omega
     clear HA2 hI HST HLst hk0
     go_wp2_with (at_builtin; refine appt rfl _ _ 23 rfl w.heap.size 31 Tryz.underlying23 info_token vo acc.length (tcs acc) rfl (HO2.out _ _) (wc.heap.size + 1) 1 ⟨kk, nn, t, aa, q5⟩ rfl HTM.out hal (HS1.out _ _) ?_; intro g cap' w4 hown hgrow hloc hglt; have hq0 := blk_cell ((hgrow.block _ (Array.getElem?_eq_some_iff.1 (HN.out _)).1 (fun e => HOL.out e.symm)).trans (HN.out _)) 0; have HOWN := hid hown; have HGR := hid hgrow; clear hown hgrow hloc hglt)
     go_ret3
     rw [e1.out]
     obtain ⟨ao', cap2, hv2, hT⟩ := (TOwn.push (d := ⟨kk, nn, t, aa, q5⟩) HOWN.out).row
     rw [List.length_append, List.length_singleton] at hv2 hT
     cases hv2
     exact ⟨_, _, _, rfl, hT, (HBW.out _ _).grown HGR.out (HS1.out _ _) (fun k e => (HOG.out k e).1)⟩
    ·have e1 : Hid (k < q5 /\ q5 <= n /\ Bnd l q5 /\ toksM l = ((acc ++ [⟨kk, nn, t, aa, q5⟩]) ++ (toksA f' l q5).1, (toksA f' l q5).2)) := by
      rcases HST.out with ⟨h1, _⟩ | ⟨_, h2, h3, h4, h5⟩
      ·exact absurd h1 hk0
      ·refine ⟨h2, by rw [<- HL.out]; exact h3, h4, ?_⟩
       rw [hI.out, h5]; simp
     have hq1 := e1.out.1
     have hq2 := e1.out.2.1
     have t1 : (kk == 0) = false := by simp; omega
     clear HA2 hI HST HLst hk0
     go_wp2_with (at_builtin; refine appt rfl _ _ 23 rfl w.heap.size 31 Tryz.underlying23 info_token vo acc.length (tcs acc) rfl (HO2.out _ _) (wc.heap.size + 1) 1 ⟨kk, nn, t, aa, q5⟩ rfl HTM.out hal (HS1.out _ _) ?_; intro g cap' w4 hown hgrow hloc hglt; have hq0 := blk_cell ((hgrow.block _ (Array.getElem?_eq_some_iff.1 (HN.out _)).1 (fun e => HOL.out e.symm)).trans (HN.out _)) 0; have hq4 := blk_cell ((hgrow.block _ (Array.getElem?_eq_some_iff.1 (HN.out _)).1 (fun e => HOL.out e.symm)).trans (HN.out _)) 4; have HOWN := hid hown; have HGR := hid hgrow; clear hown hgrow hloc hglt)
     go_roundg (n + 1 - q5)
     case measure => omega
     case rel => exact ⟨acc ++ [⟨kk, nn, t, aa, q5⟩], q5, f', _, rfl, rfl, rfl, hq2, by omega, by simp; omega, hid e1.out.2.2.1, hid (TOwn.push (d := ⟨kk, nn, t, aa, q5⟩) HOWN.out), hid ((HBW.out _ _).grown HGR.out (HS1.out _ _) (fun k e => (HOG.out k e).1)), hid e1.out.2.2.2⟩
 ·have e1 : Hid (A = ([], (chkM l).1, (((chkM l).2 : Nat) : Int))) := by unfold Hid; rw [hA]; exact ans_chk hc
  obtain ⟨ce, hce⟩ : ∃ c, c = (chkM l).1 := ⟨_, rfl⟩
  obtain ⟨cp, hcp⟩ : ∃ c, c = (chkM l).2 := ⟨_, rfl⟩
  rw [<- hce, <- hcp] at CK e1
  rw [<- hce] at hc
  have t1 : (ce == 0) = false := by simp; exact hc
  clear hA hce hcp hc HR HT
  go_enter Tryz.func9, Tryz.ntmps9
  go_wp2_with (go_at_call 20; with_reducible refine CK.out.mono ?_; rintro e wa ⟨rfl, ba⟩; have HB := hid ba; clear ba)
  go_ret3
  exact ⟨none, 0, 0, by rw [e1.out]; rfl, by rw [e1.out]; exact TRow.nil _, HB.out⟩
def byteVs (l : List Nat) : Array Value := (l.map (fun (x : Nat) => Value.int .u8 (x : Int))).toArray
theorem const_row (w : World) (l : List Nat) (n : Nat) (hn : l.length = n) (hd : Dg 256 l) (hs : n <= 1000000) (fr : Nat × Nat) : BRow (w.alloc (.cells (byteVs l) 5 fr)) (some ⟨w.heap.size, 0, none⟩) n n l := by
 refine ⟨hn, Nat.le_refl _, by unfold maxLen; omega, fun e => (by cases e), hd, .inr ⟨w.heap.size, 0, rfl, by rw [size_alloc]; omega, fun i hi => ?_⟩⟩
 rw [Nat.zero_add, Go.Joins.cell_alloc_mark_at w _ _ _ _ _ rfl]
 unfold byteVs
 rw [List.getElem?_toArray, List.getElem?_map, List.getElem?_eq_getElem hi, List.getD_eq_getElem?_getD, List.getElem?_eq_getElem hi]
 rfl
def ex1 : List Nat := [40, 97, 32, 46, 32, 34, 98, 34, 41]
def ex2 : List Nat := [35, 92, 120, 52, 49, 32, 49, 97]
def ex3 : List Nat := [32, 91]
theorem ex1_is : ∃ L, ansM ex1 = (L, 0, 0) /\ L.length = 6 /\ (L.getD 2 default).kind = 6 /\ (L.getD 3 default).text = ⟨#[98]⟩ := ⟨(ansM ex1).1, by kernel_rfl, by kernel_rfl, by kernel_rfl, by kernel_rfl⟩
theorem ex2_is : ∃ L, ansM ex2 = (L, 0, 0) /\ L.length = 3 /\ (L.getD 0 default).num = 65 /\ (L.getD 1 default).kind = 14 := ⟨(ansM ex2).1, by kernel_rfl, by kernel_rfl, by kernel_rfl, by kernel_rfl⟩
theorem ex3_is : ansM ex3 = ([], 31, 1) := by kernel_rfl
theorem tokens_const (l : List Nat) (n : Nat) (hn : l.length = n) (hd : Dg 256 l) (hs : n <= 1000) (w W : World) (hT : LTabs w) (hB : Below w.heap.size w W) (fr : Nat × Nat) :
  Calls Tryz.prog 9 #[.slice (some ⟨W.heap.size, 0, none⟩) n n] (W.alloc (.cells (byteVs l) 5 fr)) fun e w' => ∃ ao m cap, e = .returned (.tuple #[.slice ao m cap, .int .i64 (ansM l).2.1, .int .i64 (ansM l).2.2]) /\ TRow w' ao m cap (ansM l).1 /\ Below W.heap.size W w' := by
 have hR := const_row W l n hn hd (by omega) fr
 refine (tokens_any _ n n l _ hR ((hT.below hB).below (Ba W _)) (by omega)).mono fun e w' h => ?_
 obtain ⟨ao, m, cap, h1, h2, h3⟩ := h
 exact ⟨ao, m, cap, h1, h2, Bt (Ba W _) h3⟩
set_option maxHeartbeats 8000000 in
theorem lawake_any (w : World) (hT : LTabs w) : Calls Tryz.prog 12 #[] w fun e w' => e = .returned (.bool true) /\ Below w.heap.size w w' := by
 obtain ⟨L1, e1, n1, k1, t1⟩ := ex1_is
 obtain ⟨L2, e2, n2, k2, t2⟩ := ex2_is
 have e3 := ex3_is
 have hc1 : ∀ W, _ := fun W => Go.Joins.run_convert_bytes_const_at (P := Tryz.prog) W 22 5 (byteVs ex1) 9 9 W.heap.size rfl Tryz.underlying22 Tryz.underlying5
 have hc2 : ∀ W, _ := fun W => Go.Joins.run_convert_bytes_const_at (P := Tryz.prog) W 22 5 (byteVs ex2) 8 8 W.heap.size rfl Tryz.underlying22 Tryz.underlying5
 have hc3 : ∀ W, _ := fun W => Go.Joins.run_convert_bytes_const_at (P := Tryz.prog) W 22 5 (byteVs ex3) 2 2 W.heap.size rfl Tryz.underlying22 Tryz.underlying5
 have b1 : byteVs ex1 = #[.int .u8 40, .int .u8 97, .int .u8 32, .int .u8 46, .int .u8 32, .int .u8 34, .int .u8 98, .int .u8 34, .int .u8 41] := rfl
 have b2 : byteVs ex2 = #[.int .u8 35, .int .u8 92, .int .u8 120, .int .u8 52, .int .u8 49, .int .u8 32, .int .u8 49, .int .u8 97] := rfl
 have b3 : byteVs ex3 = #[.int .u8 32, .int .u8 91] := rfl
 have C1 := hid (fun W h fr => tokens_const ex1 9 rfl (by unfold ex1; intro x hx; simp at hx; omega) (by omega) w W hT h fr)
 have C2 := hid (fun W h fr => tokens_const ex2 8 rfl (by unfold ex2; intro x hx; simp at hx; omega) (by omega) w W hT h fr)
 have C3 := hid (fun W h fr => tokens_const ex3 2 rfl (by unfold ex3; intro x hx; simp at hx; omega) (by omega) w W hT h fr)
 rw [b1] at hc1 C1
 rw [b2] at hc2 C2
 rw [b3] at hc3 C3
 rw [e1] at C1
 rw [e2] at C2
 rw [e3] at C3
 have HK1 := hid k1
 have HK2 := hid k2
 have HT1 := hid t1
 have HT2 := hid t2
 have HN1 := hid n1
 have HN2 := hid n2
 have hv1 := hc1 w
 clear b1 b2 b3 e1 e2 e3 k1 k2 t1 t2 n1 n2 hc1
 go_enter Tryz.func12, Tryz.ntmps12
 go_wp2_with fail
 go_at_call 9
 with_reducible refine (C1.out w (Below.refl _ _) _).mono ?_
 rintro e wa ⟨ao1, m1, cap1, rfl, R1, ba⟩
 have HR1 := hid R1
 have HBa := hid ba
 have hv2 := hc2 wa
 clear R1 ba hv1 hc2 C1
 go_wp2_with fail
 go_at_call 9
 with_reducible refine (C2.out wa HBa.out _).mono ?_
 rintro e wb ⟨ao2, m2, cap2, rfl, R2, bb⟩
 have HR2 := hid R2
 have HBb := hid (Bt HBa.out bb)
 have HR1b := hid (HR1.out.below bb)
 have hv3 := hc3 wb
 clear R2 bb hv2 hc3 C2
 go_wp2_with fail
 go_at_call 9
 with_reducible refine (C3.out wb HBb.out _).mono ?_
 rintro e wc ⟨ao3, m3, cap3, rfl, R3, bc⟩
 have HBc := hid (Bt HBb.out bc)
 have HR1c := hid (HR1b.out.below bc)
 have HR2c := hid (HR2.out.below bc)
 clear R3 bc hv3 C3
 obtain rfl : m1 = 6 := by rw [<- HR1c.out.len]; exact HN1.out
 obtain rfl : m2 = 3 := by rw [<- HR2c.out.len]; exact HN2.out
 obtain ⟨p1, o1, rfl, hp1, hc1⟩ := HR1c.out.some (by omega)
 obtain ⟨p2, o2, rfl, hp2, hc2⟩ := HR2c.out.some (by omega)
 have x1 := hc1 2 (by omega) 0 (by omega)
 have x2 := hc1 3 (by omega) 2 (by omega)
 have x3 := hc2 0 (by omega) 1 (by omega)
 have x4 := hc2 1 (by omega) 0 (by omega)
 simp only [tc, List.getElem?_cons_zero, List.getElem?_cons_succ, HK1.out, HK2.out, HT1.out, HT2.out, Nat.add_zero, Nat.reduceMul, Nat.zero_mul, Nat.one_mul] at x1 x2 x3 x4
 clear hc1 hc2
 go_wp2_with fail
 go_ret
 exact ⟨rfl, HBc.out⟩
end Go.Proofs.YtbkfinjajkjhaaaGreatDoor
