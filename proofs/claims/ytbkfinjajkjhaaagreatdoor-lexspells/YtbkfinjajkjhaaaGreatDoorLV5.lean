import Derived.Test.YtbkfinjajkjhaaaGreatDoorRL14
import Derived.Test.YtbkfinjajkjhaaaGreatDoorTK1
import Derived.Lib.BufferRead
import Derived.Laws.BytesString
import Derived.Test.YtbkfinjajkjhaaaGreatDoorLV1
set_option linter.unusedVariables false
set_option linter.unusedSimpArgs false
set_option maxRecDepth 100000
namespace Go.Proofs.YtbkfinjajkjhaaaGreatDoor
open Go.RowKit
def ansM (l : List Nat) : List Tok × Int × Int :=
 if 65536 < l.length then ([], 50, 0)
 else match badM l with
  | some p => ([], 30, (p : Nat))
  | none => match (toksM l).2 with
   | some p => ([], 31, (p : Nat))
   | none => ((toksM l).1, 0, 0)
def ToksPost (w : World) (l : List Nat) (e : Ending) (w' : World) : Prop :=
 ∃ ao n cap, e = .returned (.tuple #[.slice ao n cap, .int .i64 (ansM l).2.1, .int .i64 (ansM l).2.2]) /\ TRow w' ao n cap (ansM l).1 /\ Below w.heap.size w w'
theorem conv_row {w : World} {ao : Option Addr} {n cap : Nat} {l : List Nat} (R : Row .u8 256 w ao n cap l) :
  (convert 22 9 (.slice ao n cap)).run Tryz.prog w = .ok (.string (bstr l)) w := by
 by_cases h0 : n = 0
 ·subst h0
  have hl : l = [] := List.length_eq_zero_iff.1 R.len
  subst hl
  rw [run_convert_bytes_string w _ _ 5 _ 0 cap Tryz.underlying22 Tryz.underlying5 Tryz.underlying9]
  cases ao <;> simp [Conv.bytesToString, loadCells]
  all_goals rfl
 ·obtain ⟨b, o, rfl, hb, hc⟩ := R.rd.some (by rw [R.len]; omega)
  exact conv_at R.len R.dg (fun i hi => hc i (by rw [R.len]; exact hi))
theorem TOwn.own_lt {base : Nat} {w : World} {v : Value} {l : List Tok} (h : TOwn base w v l) : ∀ k, v.ownBlock = some k -> base <= k /\ k < w.heap.size := fun k hk => by
 rcases h.2 with ⟨rfl, _⟩ | ⟨g, cap, cur, rfl, h2, h3, _⟩
 ·cases hk
 ·cases hk; exact ⟨h2, (Array.getElem?_eq_some_iff.1 h3).1⟩
theorem row_bytes {w : World} {ao : Option Addr} {n cap : Nat} {l : List Nat} (R : Row .u8 256 w ao n cap l) : bs (bstr l) = l /\ (bstr l).size = n := ⟨bs_bstr R.dg, by rw [bstr_size, R.len]⟩
set_option maxHeartbeats 16000000 in
theorem rtokens_any (ao : Option Addr) (n cap : Nat) (l : List Nat) (w : World) (R : Row .u8 256 w ao n cap l) (hn : n <= 5000) : Calls Tryz.prog 10 #[.slice ao n cap] w (ToksPost w l) := by
 have hcv : ∀ W, Row .u8 256 W ao n cap l -> _ := fun W h => conv_row h
 have HV := hid (conv_row R)
 obtain ⟨h1, h2⟩ := row_bytes R
 have hlen := R.len
 obtain ⟨s, hs⟩ : ∃ s, s = bstr l := ⟨_, rfl⟩
 rw [<- hs] at h1 h2 HV
 have hss : s.size <= 5000 := by omega
 have CB := hid (fun wx => rbad_any s wx (by omega))
 have CS : Hid (∀ (k : Nat) wx, k <= s.size -> Calls Tryz.prog 23 #[.string s, .int .i64 k] wx fun e w' => e = .returned (tupIB (skL l k).1 (skL l k).2) /\ w' = wx) := fun k wx hk => by
  have := rskip_any s k wx (by omega) hk; rw [h1] at this; exact this
 have CT : Hid (∀ (k : Nat) wx, k < s.size -> Calls Tryz.prog 24 #[.string s, .int .i64 k] wx (RTok wx k (tkM (l.drop k)))) := fun k wx hk => by
  have := rtoken_any s k wx hss hk; rw [h1] at this; exact this
 rw [h1] at CB
 obtain ⟨A, hA⟩ : ∃ A, A = ansM l := ⟨_, rfl⟩
 have HP : Hid (∀ e w', (∃ ao n cap, e = .returned (.tuple #[.slice ao n cap, .int .i64 A.2.1, .int .i64 A.2.2]) /\ TRow w' ao n cap A.1 /\ Below w.heap.size w w') -> ToksPost w l e w') := fun e w' h => by rw [hA] at h; exact h
 have HA : Hid (A = match badM l with
  | some p => ([], 30, ((p : Nat) : Int))
  | none => match (toksM l).2 with
   | some p => ([], 31, ((p : Nat) : Int))
   | none => ((toksM l).1, 0, 0)) := by unfold Hid; rw [hA]; unfold ansM; rw [if_neg (by omega)]
 have HL : Hid (l.length = s.size) := by unfold Hid; omega
 have n1 : ¬ (65536 : Int) < (n : Int) := by omega
 have HS := hid hs
 clear hA h1 hlen R hcv hs
 subst h2
 refine Calls.mono ?_ HP.out
 cases hbm : badM l with
 | some p =>
  have HA2 : Hid (A = ([], 30, ((p : Nat) : Int))) := HA.out.trans (by rw [hbm])
  rw [hbm] at CB
  have p0 : (0 : Int) <= (p : Int) := by omega
  have hpl : plI (some p) = (p : Int) := rfl
  rw [hpl] at CB
  have hv := HV.out
  clear HA hpl hbm
  go_enter Tryz.func10, Tryz.ntmps10
  go_wp2_with fail
  go_at_call 22
  with_reducible refine (CB.out _).mono ?_
  rintro e wa ⟨rfl, ba⟩
  have HB := hid ba
  clear ba
  go_wp2_with fail
  go_ret3
  exact ⟨none, 0, 0, by rw [HA2.out]; rfl, by rw [HA2.out]; exact TRow.nil _, HB.out⟩
 | none =>
  have HA2 : Hid (A = match (toksM l).2 with
   | some p => ([], 31, ((p : Nat) : Int))
   | none => ((toksM l).1, 0, 0)) := HA.out.trans (by rw [hbm])
  rw [hbm] at CB
  have hpl : plI none = -1 := rfl
  rw [hpl] at CB
  have hv := HV.out
  obtain ⟨a0, ha0⟩ : ∃ x, x = skL l 0 := ⟨_, rfl⟩
  have C0 : Hid (∀ wx, Calls Tryz.prog 23 #[.string s, .int .i64 0] wx fun e w' => e = .returned (tupIB (skL l 0).1 (skL l 0).2) /\ w' = wx) := fun wx => CS.out 0 wx (by omega)
  rw [<- ha0] at C0
  unfold tupIB at C0
  have HT0 : Hid (toksM l = ([] ++ (toksA (s.size + 1) l 0).1, (toksA (s.size + 1) l 0).2)) := by unfold Hid toksM; rw [HL.out]; rfl
  have HA0 := hid ha0
  clear HA hpl hbm ha0
  go_enter Tryz.func10, Tryz.ntmps10
  go_wp2_with fail
  go_at_call 22
  with_reducible refine (CB.out _).mono ?_
  rintro e wa ⟨rfl, ba⟩
  have HB := hid ba
  clear ba hv HV CB
  go_wp2_with (go_at_call 23; with_reducible refine (C0.out _).mono ?_; rintro e wb ⟨rfl, rfl⟩)
  go_loopg [7, 8, 9] (s.size + 1) (fun g v7 v8 v9 wr => ∃ (acc : List Tok) (k f : Nat) (vo : Value), g = s.size + 1 - k /\ vo = v7 /\ v8 = .int .i64 (skL l k).1 /\ v9 = .bool (skL l k).2 /\ k <= s.size /\ s.size < k + f /\ acc.length <= k /\ Hid (TOwn w.heap.size wr vo acc) /\ Hid (Below w.heap.size w wr) /\ Hid (toksM l = (acc ++ (toksA f l k).1, (toksA f l k).2)))
  case atStart => exact ⟨[], 0, s.size + 1, _, rfl, rfl, by rw [HA0.out], by rw [HA0.out], Nat.zero_le _, by omega, Nat.le_refl _, TOwn.nil _ _, HB.out, HT0.out⟩
  case round =>
   obtain ⟨acc, k, f, vo, rfl, rfl, rfl, rfl, hk, hf, hacc, hO, hB, hI⟩ := hrel
   clear HT0 HB C0 HA0
   obtain ⟨f', rfl⟩ : ∃ f', f = f' + 1 := ⟨f - 1, by omega⟩
   obtain ⟨hk1, hk2⟩ := skL_le (l := l) (k := k) (by rw [HL.out]; exact hk)
   rw [HL.out] at hk2
   obtain ⟨aa, haa⟩ : ∃ x, x = (skL l k).1 := ⟨_, rfl⟩
   obtain ⟨bb, hbb⟩ : ∃ x, x = (skL l k).2 := ⟨_, rfl⟩
   rw [<- haa, <- hbb]
   rw [<- haa] at hk1 hk2
   cases bb with
   | false =>
    have e1 : Hid (A = ([], 31, (aa : Int))) := by
     unfold Hid; rw [HA2.out, hI.out, toksA_wrong hbb.symm, <- haa]
    clear hI HA2 haa hbb
    go_wp2_with fail
    go_ret3
    exact ⟨none, 0, 0, by rw [e1.out]; rfl, by rw [e1.out]; exact TRow.nil _, hB.out⟩
   | true =>
    have a0 : (0 : Int) <= (aa : Int) := by omega
    by_cases hlt : aa < s.size
    ·have a1 : (aa : Int) < (s.size : Int) := by omega
     have C9 := hid (fun wx => CT.out aa wx hlt)
     have hne : l.drop aa ≠ [] := by intro e; have := congrArg List.length e; rw [List.length_drop, HL.out] at this; simp at this; omega
     have hnl : ¬ l.length <= (skL l k).1 := by rw [<- haa, HL.out]; omega
     cases htk : tkM (l.drop aa) with
     | none =>
      rw [htk] at C9
      have e1 : Hid (A = ([], 31, (aa : Int))) := by
       unfold Hid; rw [HA2.out, hI.out, toksA_none hbb.symm hnl (by rw [<- haa]; exact htk), <- haa]
      clear hI HA2 haa hbb hne hnl htk
      go_wp2_with fail
      go_at_call 24
      with_reducible refine (C9.out _).mono ?_
      rintro e wc ⟨kk, nn, t, fr, o, rfl, hx, bc⟩
      have HB2 : Hid (Below w.heap.size w (wc.alloc (.cells #[.int .i64 kk, .int .i64 nn, .string t, .int .i64 fr, .int .i64 o] 31))) := Below.trans (hB.out.trans (bc.mono hB.out.size)) ((Ba _ _).mono (Nat.le_trans hB.out.size bc.size))
      clear bc hx
      unfold tkV
      go_wp2_with fail
      go_ret3
      exact ⟨none, 0, 0, by rw [e1.out]; rfl, by rw [e1.out]; exact TRow.nil _, HB2.out⟩
     | some x =>
      rw [htk] at C9
      obtain ⟨hx1, hx2⟩ := tkM_le hne htk
      rw [List.length_drop, HL.out] at hx2
      have e1 : Hid (toksM l = ((acc ++ [⟨x.1, x.2.1, x.2.2.1, aa, aa + x.2.2.2⟩]) ++ (toksA f' l (aa + x.2.2.2)).1, (toksA f' l (aa + x.2.2.2)).2)) := by
       unfold Hid; rw [hI.out, toksA_some hbb.symm hnl (by rw [<- haa]; exact htk), <- haa]; simp
      obtain ⟨x1, x2, x3, x4⟩ := x
      simp only at hx1 hx2 e1
      clear hI haa hbb hne hnl htk
      go_wp2_with fail
      go_at_call 24
      with_reducible refine (C9.out _).mono ?_
      rintro e wc ⟨kk, nn, t, fr, o, rfl, hx, bc⟩
      obtain ⟨rfl, rfl, rfl, ho0⟩ := hx _ rfl
      obtain ⟨q, hq⟩ : ∃ q, q = aa + x4 := ⟨_, rfl⟩
      have ho : o = (q : Int) := by rw [ho0, hq]
      clear ho0
      subst ho
      rw [<- hq] at e1
      have hqa : aa < q := by omega
      have hqs : q <= s.size := by omega
      clear hx hq hx1 hx2
      unfold tkV
      have CK := hid (fun wx => CS.out q wx hqs)
      unfold tupIB at CK
      have hw1 : Hid (wr.heap.size <= wc.heap.size) := bc.size
      have HOc := hid (hO.out.below bc)
      have HBc : Hid (Below w.heap.size w wc) := hB.out.trans (bc.mono hB.out.size)
      have HOW : ∀ ob ob2, TOwn w.heap.size ((wc.alloc ob).alloc ob2) vo acc := fun ob ob2 => (HOc.out.below (Ba _ _)).below (Ba _ _)
      have HO2 := hid HOW
      have HBW : Hid (∀ ob ob2, Below w.heap.size w ((wc.alloc ob).alloc ob2)) := fun ob ob2 => HBc.out.trans ((Baa wc ob ob2).mono HBc.out.size)
      have HN : Hid (∀ ob, ((wc.alloc (.cells #[.int .i64 kk, .int .i64 nn, .string t, .int .i64 aa, .int .i64 q] 31)).alloc ob).heap[wc.heap.size]? = some (.cells #[.int .i64 kk, .int .i64 nn, .string t, .int .i64 aa, .int .i64 q] 31)) := fun ob => by
       have h := heap_alloc_new wc (.cells #[.int .i64 kk, .int .i64 nn, .string t, .int .i64 aa, .int .i64 q] 31)
       exact ((Ba (wc.alloc (.cells #[.int .i64 kk, .int .i64 nn, .string t, .int .i64 aa, .int .i64 q] 31)) ob).block _ (Array.getElem?_eq_some_iff.1 h).1).trans h
      have HTM : Hid (∀ j u, (tc ⟨kk, nn, t, aa, q⟩)[j]? = some u -> ((wc.alloc (.cells #[.int .i64 kk, .int .i64 nn, .string t, .int .i64 aa, .int .i64 q] 31)).alloc (.cells #[.int .i64 kk, .int .i64 nn, .string t, .int .i64 aa, .int .i64 q] 31)).cell? ⟨wc.heap.size + 1, j, none⟩ = some u) := fun j u hj => by
       have h := blk_new (wc.alloc (.cells #[.int .i64 kk, .int .i64 nn, .string t, .int .i64 aa, .int .i64 q] 31)) #[.int .i64 kk, .int .i64 nn, .string t, .int .i64 aa, .int .i64 q] 31
       rw [size_alloc] at h
       exact tok_of h hj
      have hal : acc.length <= 1000000 := by omega
      have HS1 : Hid (∀ ob ob2, w.heap.size <= ((wc.alloc ob).alloc ob2).heap.size) := fun ob ob2 => (HBW.out ob ob2).size
      have HOL : Hid (vo.ownBlock ≠ some wc.heap.size) := fun e => by have := hO.out.own_lt _ e; have := hw1.out; omega
      have HOG : Hid (∀ k, vo.ownBlock = some k -> w.heap.size <= k) := fun k e => (hO.out.own_lt _ e).1
      go_wp2_with (first
       | (at_builtin; refine appt rfl _ _ 23 rfl w.heap.size 31 Tryz.underlying23 info_token vo acc.length (tcs acc) rfl (HO2.out _ _) (wc.heap.size + 1) 1 ⟨kk, nn, t, aa, q⟩ rfl HTM.out hal (HS1.out _ _) ?_; intro g cap' w4 hown hgrow hloc hglt; have hq4 := blk_cell ((hgrow.block _ (Array.getElem?_eq_some_iff.1 (HN.out _)).1 (fun e => HOL.out e.symm)).trans (HN.out _)) 4; have HOWN := hid hown; have HGR := hid hgrow; clear hown hgrow hloc hglt)
       | (go_at_call 23; with_reducible refine (CK.out _).mono ?_; rintro e wd ⟨rfl, rfl⟩))
      go_roundg (s.size + 1 - q)
      case measure => omega
      case rel => exact ⟨acc ++ [⟨kk, nn, t, aa, q⟩], q, f', _, rfl, rfl, rfl, rfl, hqs, by omega, by simp; omega, hid (TOwn.push (d := ⟨kk, nn, t, aa, q⟩) HOWN.out), hid ((HBW.out _ _).grown HGR.out (HS1.out _ _) HOG.out), e1⟩
    ·have a1 : ¬ (aa : Int) < (s.size : Int) := by omega
     have hle : l.length <= (skL l k).1 := by rw [<- haa, HL.out]; omega
     have e1 : Hid (A = (acc ++ [⟨0, 0, ⟨#[]⟩, s.size, s.size⟩], 0, 0)) := by
      unfold Hid; rw [HA2.out, hI.out, toksA_end hbb.symm hle, HL.out]
     have HOW : Hid (∀ ob, TOwn w.heap.size (wr.alloc ob) vo acc) := fun ob => hO.out.below (Ba _ _)
     have HBW : Hid (∀ ob, Below w.heap.size w (wr.alloc ob)) := fun ob => hB.out.trans ((Ba wr ob).mono hB.out.size)
     have HTM : Hid (∀ j u, (tc ⟨0, 0, ⟨#[]⟩, s.size, s.size⟩)[j]? = some u -> (wr.alloc (.cells #[.int .i64 0, .int .i64 0, .string ⟨#[]⟩, .int .i64 s.size, .int .i64 s.size] 31)).cell? ⟨wr.heap.size, j, none⟩ = some u) := fun j u hj => tok_of (blk_new wr _ _) hj
     have hal : acc.length <= 1000000 := by omega
     have HS1 : Hid (∀ ob, w.heap.size <= (wr.alloc ob).heap.size) := fun ob => (HBW.out ob).size
     have HOG : Hid (∀ k, vo.ownBlock = some k -> w.heap.size <= k) := fun k e => (hO.out.own_lt _ e).1
     clear hI HA2 haa hbb hle
     go_wp2_with (at_builtin; refine appt rfl _ _ 23 rfl w.heap.size 31 Tryz.underlying23 info_token vo acc.length (tcs acc) rfl (HOW.out _) wr.heap.size 1 ⟨0, 0, ⟨#[]⟩, s.size, s.size⟩ rfl HTM.out hal (HS1.out _) ?_; intro g cap' w4 hown hgrow hloc hglt; have HOWN := hid hown; have HGR := hid hgrow; clear hown hgrow hloc hglt)
     go_ret3
     rw [e1.out]
     obtain ⟨ao', cap2, hv2, hT⟩ := (TOwn.push HOWN.out).row
     rw [List.length_append, List.length_singleton] at hv2 hT
     cases hv2
     exact ⟨_, _, _, rfl, hT, (HBW.out _).grown HGR.out (HS1.out _) HOG.out⟩
theorem ans_chk {l : List Nat} (h : (chkM l).1 ≠ 0) : ansM l = ([], (chkM l).1, (((chkM l).2 : Nat) : Int)) := by
 unfold chkM at h ⊢
 unfold ansM
 by_cases hl : 65536 < l.length
 ·rw [if_pos hl, if_pos hl]; rfl
 ·rw [if_neg hl] at h ⊢
  rw [if_neg hl]
  cases hb : badM l with
  | none => rw [hb] at h; exact absurd rfl h
  | some p => rfl
theorem chk_ok {l : List Nat} (h : (chkM l).1 = 0) : chkM l = (0, 0) /\ badM l = none /\ ansM l = (match (toksM l).2 with
   | some p => ([], 31, ((p : Nat) : Int))
   | none => ((toksM l).1, 0, 0)) := by
 unfold chkM at h ⊢
 unfold ansM
 by_cases hl : 65536 < l.length
 ·rw [if_pos hl] at h; exact absurd h (by decide)
 ·rw [if_neg hl] at h ⊢
  rw [if_neg hl]
  cases hb : badM l with
  | none => exact ⟨rfl, rfl, rfl⟩
  | some p => rw [hb] at h; exact absurd h (by simp)
set_option maxHeartbeats 16000000 in
theorem tokens_any (ao : Option Addr) (n cap : Nat) (l : List Nat) (w : World) (R : BRow w ao n cap l) (hT : LTabs w) (hsm : n <= 1000000) : Calls Tryz.prog 9 #[.slice ao n cap] w (ToksPost w l) := by
 have CK := hid (checked_any ao n cap l w R hT hsm)
 obtain ⟨A, hA⟩ : ∃ A, A = ansM l := ⟨_, rfl⟩
 have HP : Hid (∀ e w', (∃ ao n cap, e = .returned (.tuple #[.slice ao n cap, .int .i64 A.2.1, .int .i64 A.2.2]) /\ TRow w' ao n cap A.1 /\ Below w.heap.size w w') -> ToksPost w l e w') := fun e w' h => by rw [hA] at h; exact h
 have HL : Hid (l.length = n) := R.len
 have HR := hid R
 have HT := hid hT
 have HD : Hid (Dg 256 l) := R.dg
 clear R hT
 refine Calls.mono ?_ HP.out
 clear HP
 by_cases hc : (chkM l).1 = 0
 ·obtain ⟨h1, h2, h3⟩ := chk_ok hc
  rw [h1] at CK
  have HA2 : Hid (A = (match (toksM l).2 with
   | some p => ([], 31, ((p : Nat) : Int))
   | none => ((toksM l).1, 0, 0))) := by unfold Hid; rw [hA, h3]
  have HVd : Hid (Vd l) := (valid_vd HD.out).1 h2
  have CK2 : Hid (Calls Tryz.prog 20 #[.slice ao n cap] w fun e w' => e = .returned (.tuple #[.int .i64 0, .int .i64 0]) /\ Below w.heap.size w w') := CK.out
  have HT0 : Hid (toksM l = ([] ++ (toksA (n + 1) l 0).1, (toksA (n + 1) l 0).2)) := by unfold Hid toksM; rw [HL.out]; rfl
  clear hc h1 h2 h3 hA CK
  go_enter Tryz.func9, Tryz.ntmps9
  go_wp2_with fail
  go_at_call 20
  with_reducible refine CK2.out.mono ?_
  rintro e wa ⟨rfl, ba⟩
  have HB := hid ba
  clear ba CK2
  go_wp2_with fail
  go_loopg [7, 8] (n + 1) (fun g v7 v8 wr => ∃ (acc : List Tok) (k f : Nat) (vo : Value), g = n + 1 - k /\ vo = v7 /\ v8 = .int .i64 k /\ k <= n /\ n < k + f /\ acc.length <= k /\ Hid (Bnd l k) /\ Hid (TOwn w.heap.size wr vo acc) /\ Hid (Below w.heap.size w wr) /\ Hid (toksM l = (acc ++ (toksA f l k).1, (toksA f l k).2)))
  case atStart => exact ⟨[], 0, n + 1, _, rfl, rfl, rfl, Nat.zero_le _, by omega, Nat.le_refl _, .inl rfl, TOwn.nil _ _, HB.out, HT0.out⟩
  case round =>
   obtain ⟨acc, k, f, vo, rfl, rfl, rfl, hk, hf, hacc, hBn, hO, hB, hI⟩ := hrel
   clear HT0 HB
   obtain ⟨f', rfl⟩ : ∃ f', f = f' + 1 := ⟨f - 1, by omega⟩
   have CC := hid (lexCut_any ao n cap l k wr (HR.out.below hB.out) (HT.out.below hB.out) hsm hk hBn.out HVd.out)
   have hkl : k <= l.length := by rw [HL.out]; exact hk
   obtain ⟨S, hS⟩ : ∃ S, S = stepM l k := ⟨_, rfl⟩
   rw [<- hS] at CC
   cases S with
   | none =>
    have e1 : Hid (A = ([], 31, (((skL l k).1 : Nat) : Int))) := by unfold Hid; rw [HA2.out, hI.out, toks_none hkl hS.symm]
    obtain ⟨q, hq⟩ : ∃ q, q = (skL l k).1 := ⟨_, rfl⟩
    rw [<- hq] at CC e1
    clear hI HA2 hS hq hBn hkl HR HT
    go_wp2_with fail
    go_at_call 21
    with_reducible refine CC.out.mono ?_
    rintro e wc ⟨a, b, t, fr, u, er, pl, rfl, hp1, hp2, bc⟩
    obtain ⟨rfl, rfl⟩ := hp1 rfl
    have HB2 : Hid (Below w.heap.size w (wc.alloc (.cells #[.int .i64 a, .int .i64 b, .string t, .int .i64 fr, .int .i64 u] 31))) := Below.trans (hB.out.trans (bc.mono hB.out.size)) ((Ba _ _).mono (Nat.le_trans hB.out.size bc.size))
    clear bc hp1 hp2 CC
    unfold tkV
    go_wp2_with fail
    go_ret3
    exact ⟨none, 0, 0, by rw [e1.out]; rfl, by rw [e1.out]; exact TRow.nil _, HB2.out⟩
   | some x =>
    have hst := step_kind hkl hBn.out hS.symm
    have HLst : Hid (l.length <= (skL l k).1 -> toksA (f' + 1) l k = ([⟨0, 0, ⟨#[]⟩, l.length, l.length⟩], none)) := fun h => step_last hkl hS.symm h
    obtain ⟨q, hq⟩ : ∃ q, q = (skL l k).1 := ⟨_, rfl⟩
    rw [<- hq] at CC HLst hst
    have HST := hid hst
    clear hS hq hBn hkl HR HT hst
    obtain ⟨y1, y2, y3, aa, q5⟩ := x
    go_wp2_with fail
    go_at_call 21
    with_reducible refine CC.out.mono ?_
    rintro e wc ⟨kk, nn, t, xf, xu, er, pl, rfl, hp1, hp2, bc⟩
    obtain ⟨rfl, rfl, rfl, rfl, rfl, rfl⟩ := hp2 _ rfl
    have hw1 : Hid (wr.heap.size <= wc.heap.size) := bc.size
    have HOc := hid (hO.out.below bc)
    have HBc : Hid (Below w.heap.size w wc) := hB.out.trans (bc.mono hB.out.size)
    have HOG : Hid (∀ k, vo.ownBlock = some k -> w.heap.size <= k /\ k < wr.heap.size) := fun k e => hO.out.own_lt _ e
    have HO2 : Hid (∀ ob ob2, TOwn w.heap.size ((wc.alloc ob).alloc ob2) vo acc) := fun ob ob2 => (HOc.out.below (Ba _ _)).below (Ba _ _)
    have HBW : Hid (∀ ob ob2, Below w.heap.size w ((wc.alloc ob).alloc ob2)) := fun ob ob2 => HBc.out.trans ((Baa wc ob ob2).mono HBc.out.size)
    have HN : Hid (∀ ob, ((wc.alloc (.cells #[.int .i64 kk, .int .i64 nn, .string t, .int .i64 aa, .int .i64 q5] 31)).alloc ob).heap[wc.heap.size]? = some (.cells #[.int .i64 kk, .int .i64 nn, .string t, .int .i64 aa, .int .i64 q5] 31)) := fun ob => by
     have h := heap_alloc_new wc (.cells #[.int .i64 kk, .int .i64 nn, .string t, .int .i64 aa, .int .i64 q5] 31)
     exact ((Ba (wc.alloc (.cells #[.int .i64 kk, .int .i64 nn, .string t, .int .i64 aa, .int .i64 q5] 31)) ob).block _ (Array.getElem?_eq_some_iff.1 h).1).trans h
    have HTM : Hid (∀ j u, (tc ⟨kk, nn, t, aa, q5⟩)[j]? = some u -> ((wc.alloc (.cells #[.int .i64 kk, .int .i64 nn, .string t, .int .i64 aa, .int .i64 q5] 31)).alloc (.cells #[.int .i64 kk, .int .i64 nn, .string t, .int .i64 aa, .int .i64 q5] 31)).cell? ⟨wc.heap.size + 1, j, none⟩ = some u) := fun j u hj => by
     have h := blk_new (wc.alloc (.cells #[.int .i64 kk, .int .i64 nn, .string t, .int .i64 aa, .int .i64 q5] 31)) #[.int .i64 kk, .int .i64 nn, .string t, .int .i64 aa, .int .i64 q5] 31
     rw [size_alloc] at h
     exact tok_of h hj
    have hal : acc.length <= 1000000 := by omega
    have HS1 : Hid (∀ ob ob2, w.heap.size <= ((wc.alloc ob).alloc ob2).heap.size) := fun ob ob2 => (HBW.out ob ob2).size
    have HOL : Hid (vo.ownBlock ≠ some wc.heap.size) := fun e => by have := HOG.out _ e; have := hw1.out; omega
    clear bc hp1 hp2 CC hO hB
    unfold tkV
    by_cases hk0 : kk = 0
    ·have e1 : Hid (A = (acc ++ [⟨kk, nn, t, aa, q5⟩], 0, 0)) := by
      unfold Hid
      rcases HST.out with ⟨_, h2, h3⟩ | ⟨h1, _⟩
      ·rw [HA2.out, hI.out, HLst.out h2, h3]
      ·exact absurd hk0 h1
     have t1 : (kk == 0) = true := by simp; omega
     clear HA2 hI HST HLst hk0
     go_wp2_with (at_builtin; refine appt rfl _ _ 23 rfl w.heap.size 31 Tryz.underlying23 info_token vo acc.length (tcs acc) rfl (HO2.out _ _) (wc.heap.size + 1) 1 ⟨kk, nn, t, aa, q5⟩ rfl HTM.out hal (HS1.out _ _) ?_; intro g cap' w4 hown hgrow hloc hglt; have hq0 := blk_cell ((hgrow.block _ (Array.getElem?_eq_some_iff.1 (HN.out _)).1 (fun e => HOL.out e.symm)).trans (HN.out _)) 0; have HOWN := hid hown; have HGR := hid hgrow; clear hown hgrow hloc hglt)
     go_ret3
     rw [e1.out]
     obtain ⟨ao', cap2, hv2, hT⟩ := (TOwn.push (d := ⟨kk, nn, t, aa, q5⟩) HOWN.out).row
     rw [List.length_append, List.length_singleton] at hv2 hT
     cases hv2
     exact ⟨_, _, _, rfl, hT, (HBW.out _ _).grown HGR.out (HS1.out _ _) (fun k e => (HOG.out k e).1)⟩
    ·have e1 : Hid (k < q5 /\ q5 <= n /\ Bnd l q5 /\ toksM l = ((acc ++ [⟨kk, nn, t, aa, q5⟩]) ++ (toksA f' l q5).1, (toksA f' l q5).2)) := by
      rcases HST.out with ⟨h1, _⟩ | ⟨_, h2, h3, h4, h5⟩
      ·exact absurd h1 hk0
      ·refine ⟨h2, by rw [<- HL.out]; exact h3, h4, ?_⟩
       rw [hI.out, h5]; simp
     have hq1 := e1.out.1
     have hq2 := e1.out.2.1
     have t1 : (kk == 0) = false := by simp; omega
     clear HA2 hI HST HLst hk0
     go_wp2_with (at_builtin; refine appt rfl _ _ 23 rfl w.heap.size 31 Tryz.underlying23 info_token vo acc.length (tcs acc) rfl (HO2.out _ _) (wc.heap.size + 1) 1 ⟨kk, nn, t, aa, q5⟩ rfl HTM.out hal (HS1.out _ _) ?_; intro g cap' w4 hown hgrow hloc hglt; have hq0 := blk_cell ((hgrow.block _ (Array.getElem?_eq_some_iff.1 (HN.out _)).1 (fun e => HOL.out e.symm)).trans (HN.out _)) 0; have hq4 := blk_cell ((hgrow.block _ (Array.getElem?_eq_some_iff.1 (HN.out _)).1 (fun e => HOL.out e.symm)).trans (HN.out _)) 4; have HOWN := hid hown; have HGR := hid hgrow; clear hown hgrow hloc hglt)
     go_roundg (n + 1 - q5)
     case measure => omega
     case rel => exact ⟨acc ++ [⟨kk, nn, t, aa, q5⟩], q5, f', _, rfl, rfl, rfl, hq2, by omega, by simp; omega, hid e1.out.2.2.1, hid (TOwn.push (d := ⟨kk, nn, t, aa, q5⟩) HOWN.out), hid ((HBW.out _ _).grown HGR.out (HS1.out _ _) (fun k e => (HOG.out k e).1)), hid e1.out.2.2.2⟩
 ·have e1 : Hid (A = ([], (chkM l).1, (((chkM l).2 : Nat) : Int))) := by unfold Hid; rw [hA]; exact ans_chk hc
  obtain ⟨ce, hce⟩ : ∃ c, c = (chkM l).1 := ⟨_, rfl⟩
  obtain ⟨cp, hcp⟩ : ∃ c, c = (chkM l).2 := ⟨_, rfl⟩
  rw [<- hce, <- hcp] at CK e1
  rw [<- hce] at hc
  have t1 : (ce == 0) = false := by simp; exact hc
  clear hA hce hcp hc HR HT
  go_enter Tryz.func9, Tryz.ntmps9
  go_wp2_with (go_at_call 20; with_reducible refine CK.out.mono ?_; rintro e wa ⟨rfl, ba⟩; have HB := hid ba; clear ba)
  go_ret3
  exact ⟨none, 0, 0, by rw [e1.out]; rfl, by rw [e1.out]; exact TRow.nil _, HB.out⟩
end Go.Proofs.YtbkfinjajkjhaaaGreatDoor
