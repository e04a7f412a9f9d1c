import Derived.Test.YtbkfinjajkjhaaaGreatDoorRL14
import Derived.Test.YtbkfinjajkjhaaaGreatDoorRL9
import Derived.Lib.BufferRead
import Derived.Laws.BytesString
set_option linter.unusedVariables false
set_option linter.unusedSimpArgs false
set_option maxRecDepth 100000
namespace Go.Proofs.YtbkfinjajkjhaaaGreatDoor
open Go.RowKit
def ansM (l : List Nat) : List Tok × Int × Int :=
 if 65536 < l.length then ([], 50, 0)
 else match badM l with
  | some p => ([], 30, (p : Nat))
  | none => match (jp l).2 with
   | some p => ([], 31, (p : Nat))
   | none => ((jp l).1, 0, 0)
def vd (w : World) (l : List Nat) (e : Ending) (w' : World) : Prop :=
 ∃ ao n cap, e = .returned (.tuple #[.slice ao n cap, .int .i64 (ansM l).2.1, .int .i64 (ansM l).2.2]) /\ TRow w' ao n cap (ansM l).1 /\ Below w.heap.size w w'
theorem zco {w : World} {ao : Option Addr} {n cap : Nat} {l : List Nat} (R : Row .u8 256 w ao n cap l) :
  (convert 22 9 (.slice ao n cap)).run Tryz.prog w = .ok (.string (bstr l)) w := by
 by_cases h0 : n = 0
 ·subst h0
  have hl : l = [] := List.length_eq_zero_iff.1 R.len
  subst hl
  rw [run_convert_bytes_string w _ _ 5 _ 0 cap Tryz.underlying22 Tryz.underlying5 Tryz.underlying9]
  cases ao <;> simp [Conv.bytesToString, loadCells]
  all_goals rfl
 ·obtain ⟨b, o, rfl, hb, hc⟩ := R.rd.some (by rw [R.len]; omega)
  exact zar R.len R.dg (fun i hi => hc i (by rw [R.len]; exact hi))
theorem TOwn.own_lt {base : Nat} {w : World} {v : Value} {l : List Tok} (h : TOwn base w v l) : ∀ k, v.ownBlock = some k -> base <= k /\ k < w.heap.size := fun k hk => by
 rcases h.2 with ⟨rfl, _⟩ | ⟨g, cap, cur, rfl, h2, h3, _⟩
 ·cases hk
 ·cases hk; exact ⟨h2, (Array.getElem?_eq_some_iff.1 h3).1⟩
theorem zgo {w : World} {ao : Option Addr} {n cap : Nat} {l : List Nat} (R : Row .u8 256 w ao n cap l) : bs (bstr l) = l /\ (bstr l).size = n := ⟨jw R.dg, by rw [yf, R.len]⟩
set_option maxHeartbeats 16000000 in
theorem zbn (ao : Option Addr) (n cap : Nat) (l : List Nat) (w : World) (R : Row .u8 256 w ao n cap l) (hn : n <= 5000) : Calls Tryz.prog 10 #[.slice ao n cap] w (vd w l) := by
 have hcv : ∀ W, Row .u8 256 W ao n cap l -> _ := fun W h => zco h
 have HV := hid (zco R)
 obtain ⟨h1, h2⟩ := zgo R
 have hlen := R.len
 obtain ⟨s, hs⟩ : ∃ s, s = bstr l := ⟨_, rfl⟩
 rw [<- hs] at h1 h2 HV
 have hss : s.size <= 5000 := by omega
 have CB := hid (fun wx => zis s wx (by omega))
 have CS : Hid (∀ (k : Nat) wx, k <= s.size -> Calls Tryz.prog 23 #[.string s, .int .i64 k] wx fun e w' => e = .returned (zeo (skL l k).1 (skL l k).2) /\ w' = wx) := fun k wx hk => by
  have := zep s k wx (by omega) hk; rw [h1] at this; exact this
 have CT : Hid (∀ (k : Nat) wx, k < s.size -> Calls Tryz.prog 24 #[.string s, .int .i64 k] wx (RTok wx k (tkM (l.drop k)))) := fun k wx hk => by
  have := zdi s k wx hss hk; rw [h1] at this; exact this
 rw [h1] at CB
 obtain ⟨A, hA⟩ : ∃ A, A = ansM l := ⟨_, rfl⟩
 have HP : Hid (∀ e w', (∃ ao n cap, e = .returned (.tuple #[.slice ao n cap, .int .i64 A.2.1, .int .i64 A.2.2]) /\ TRow w' ao n cap A.1 /\ Below w.heap.size w w') -> vd w l e w') := fun e w' h => by rw [hA] at h; exact h
 have HA : Hid (A = match badM l with
  | some p => ([], 30, ((p : Nat) : Int))
  | none => match (jp l).2 with
   | some p => ([], 31, ((p : Nat) : Int))
   | none => ((jp l).1, 0, 0)) := by unfold Hid; rw [hA]; unfold ansM; rw [if_neg (by omega)]
 have HL : Hid (l.length = s.size) := by unfold Hid; omega
 have n1 : ¬ (65536 : Int) < (n : Int) := by omega
 have HS := hid hs
 clear hA h1 hlen R hcv hs
 subst h2
 refine Calls.mono ?_ HP.out
 cases hbm : badM l with
 | some p =>
  have HA2 : Hid (A = ([], 30, ((p : Nat) : Int))) := HA.out.trans (by rw [hbm])
  rw [hbm] at CB
  have p0 : (0 : Int) <= (p : Int) := by omega
  have hpl : plI (some p) = (p : Int) := rfl
  rw [hpl] at CB
  have hv := HV.out
  clear HA hpl hbm
  go_enter Tryz.func10, Tryz.ntmps10
  go_wp2_with fail
  go_at_call 22
  with_reducible refine (CB.out _).mono ?_
  rintro e wa ⟨rfl, ba⟩
  have HB := hid ba
  clear ba
  go_wp2_with fail
  go_ret3
  exact ⟨none, 0, 0, by rw [HA2.out]; rfl, by rw [HA2.out]; exact TRow.nil _, HB.out⟩
 | none =>
  have HA2 : Hid (A = match (jp l).2 with
   | some p => ([], 31, ((p : Nat) : Int))
   | none => ((jp l).1, 0, 0)) := HA.out.trans (by rw [hbm])
  rw [hbm] at CB
  have hpl : plI none = -1 := rfl
  rw [hpl] at CB
  have hv := HV.out
  obtain ⟨a0, ha0⟩ : ∃ x, x = skL l 0 := ⟨_, rfl⟩
  have C0 : Hid (∀ wx, Calls Tryz.prog 23 #[.string s, .int .i64 0] wx fun e w' => e = .returned (zeo (skL l 0).1 (skL l 0).2) /\ w' = wx) := fun wx => CS.out 0 wx (by omega)
  rw [<- ha0] at C0
  unfold zeo at C0
  have HT0 : Hid (jp l = ([] ++ (zy (s.size + 1) l 0).1, (zy (s.size + 1) l 0).2)) := by unfold Hid jp; rw [HL.out]; rfl
  have HA0 := hid ha0
  clear HA hpl hbm ha0
  go_enter Tryz.func10, Tryz.ntmps10
  go_wp2_with fail
  go_at_call 22
  with_reducible refine (CB.out _).mono ?_
  rintro e wa ⟨rfl, ba⟩
  have HB := hid ba
  clear ba hv HV CB
  go_wp2_with (go_at_call 23; with_reducible refine (C0.out _).mono ?_; rintro e wb ⟨rfl, rfl⟩)
  go_loopg [7, 8, 9] (s.size + 1) (fun g v7 v8 v9 wr => ∃ (acc : List Tok) (k f : Nat) (vo : Value), g = s.size + 1 - k /\ vo = v7 /\ v8 = .int .i64 (skL l k).1 /\ v9 = .bool (skL l k).2 /\ k <= s.size /\ s.size < k + f /\ acc.length <= k /\ Hid (TOwn w.heap.size wr vo acc) /\ Hid (Below w.heap.size w wr) /\ Hid (jp l = (acc ++ (zy f l k).1, (zy f l k).2)))
  case atStart => exact ⟨[], 0, s.size + 1, _, rfl, rfl, by rw [HA0.out], by rw [HA0.out], Nat.zero_le _, by omega, Nat.le_refl _, TOwn.nil _ _, HB.out, HT0.out⟩
  case round =>
   obtain ⟨acc, k, f, vo, rfl, rfl, rfl, rfl, hk, hf, hacc, hO, hB, hI⟩ := hrel
   clear HT0 HB C0 HA0
   obtain ⟨f', rfl⟩ : ∃ f', f = f' + 1 := ⟨f - 1, by omega⟩
   obtain ⟨hk1, hk2⟩ := zln (l := l) (k := k) (by rw [HL.out]; exact hk)
   rw [HL.out] at hk2
   obtain ⟨aa, haa⟩ : ∃ x, x = (skL l k).1 := ⟨_, rfl⟩
   obtain ⟨bb, hbb⟩ : ∃ x, x = (skL l k).2 := ⟨_, rfl⟩
   rw [<- haa, <- hbb]
   rw [<- haa] at hk1 hk2
   cases bb with
   | false =>
    have e1 : Hid (A = ([], 31, (aa : Int))) := by
     unfold Hid; rw [HA2.out, hI.out, vz hbb.symm, <- haa]
    clear hI HA2 haa hbb
    go_wp2_with fail
    go_ret3
    exact ⟨none, 0, 0, by rw [e1.out]; rfl, by rw [e1.out]; exact TRow.nil _, hB.out⟩
   | true =>
    have a0 : (0 : Int) <= (aa : Int) := by omega
    by_cases hlt : aa < s.size
    ·have a1 : (aa : Int) < (s.size : Int) := by omega
     have C9 := hid (fun wx => CT.out aa wx hlt)
     have hne : l.drop aa ≠ [] := by intro e; have := congrArg List.length e; rw [List.length_drop, HL.out] at this; simp at this; omega
     have hnl : ¬ l.length <= (skL l k).1 := by rw [<- haa, HL.out]; omega
     cases htk : tkM (l.drop aa) with
     | none =>
      rw [htk] at C9
      have e1 : Hid (A = ([], 31, (aa : Int))) := by
       unfold Hid; rw [HA2.out, hI.out, xw hbb.symm hnl (by rw [<- haa]; exact htk), <- haa]
      clear hI HA2 haa hbb hne hnl htk
      go_wp2_with fail
      go_at_call 24
      with_reducible refine (C9.out _).mono ?_
      rintro e wc ⟨kk, nn, t, fr, o, rfl, hx, bc⟩
      have HB2 : Hid (Below w.heap.size w (wc.alloc (.cells #[.int .i64 kk, .int .i64 nn, .string t, .int .i64 fr, .int .i64 o] 31))) := Below.trans (hB.out.trans (bc.mono hB.out.size)) ((Ba _ _).mono (Nat.le_trans hB.out.size bc.size))
      clear bc hx
      unfold tkV
      go_wp2_with fail
      go_ret3
      exact ⟨none, 0, 0, by rw [e1.out]; rfl, by rw [e1.out]; exact TRow.nil _, HB2.out⟩
     | some x =>
      rw [htk] at C9
      obtain ⟨hx1, hx2⟩ := zfg hne htk
      rw [List.length_drop, HL.out] at hx2
      have e1 : Hid (jp l = ((acc ++ [⟨x.1, x.2.1, x.2.2.1, aa, aa + x.2.2.2⟩]) ++ (zy f' l (aa + x.2.2.2)).1, (zy f' l (aa + x.2.2.2)).2)) := by
       unfold Hid; rw [hI.out, xx hbb.symm hnl (by rw [<- haa]; exact htk), <- haa]; simp
      obtain ⟨x1, x2, x3, x4⟩ := x
      simp only at hx1 hx2 e1
      clear hI haa hbb hne hnl htk
      go_wp2_with fail
      go_at_call 24
      with_reducible refine (C9.out _).mono ?_
      rintro e wc ⟨kk, nn, t, fr, o, rfl, hx, bc⟩
      obtain ⟨rfl, rfl, rfl, ho0⟩ := hx _ rfl
      obtain ⟨q, hq⟩ : ∃ q, q = aa + x4 := ⟨_, rfl⟩
      have ho : o = (q : Int) := by rw [ho0, hq]
      clear ho0
      subst ho
      rw [<- hq] at e1
      have hqa : aa < q := by omega
      have hqs : q <= s.size := by omega
      clear hx hq hx1 hx2
      unfold tkV
      have CK := hid (fun wx => CS.out q wx hqs)
      unfold zeo at CK
      have hw1 : Hid (wr.heap.size <= wc.heap.size) := bc.size
      have HOc := hid (hO.out.below bc)
      have HBc : Hid (Below w.heap.size w wc) := hB.out.trans (bc.mono hB.out.size)
      have HOW : ∀ ob ob2, TOwn w.heap.size ((wc.alloc ob).alloc ob2) vo acc := fun ob ob2 => (HOc.out.below (Ba _ _)).below (Ba _ _)
      have HO2 := hid HOW
      have HBW : Hid (∀ ob ob2, Below w.heap.size w ((wc.alloc ob).alloc ob2)) := fun ob ob2 => HBc.out.trans ((Baa wc ob ob2).mono HBc.out.size)
      have HN : Hid (∀ ob, ((wc.alloc (.cells #[.int .i64 kk, .int .i64 nn, .string t, .int .i64 aa, .int .i64 q] 31)).alloc ob).heap[wc.heap.size]? = some (.cells #[.int .i64 kk, .int .i64 nn, .string t, .int .i64 aa, .int .i64 q] 31)) := fun ob => by
       have h := heap_alloc_new wc (.cells #[.int .i64 kk, .int .i64 nn, .string t, .int .i64 aa, .int .i64 q] 31)
       exact ((Ba (wc.alloc (.cells #[.int .i64 kk, .int .i64 nn, .string t, .int .i64 aa, .int .i64 q] 31)) ob).block _ (Array.getElem?_eq_some_iff.1 h).1).trans h
      have HTM : Hid (∀ j u, (tc ⟨kk, nn, t, aa, q⟩)[j]? = some u -> ((wc.alloc (.cells #[.int .i64 kk, .int .i64 nn, .string t, .int .i64 aa, .int .i64 q] 31)).alloc (.cells #[.int .i64 kk, .int .i64 nn, .string t, .int .i64 aa, .int .i64 q] 31)).cell? ⟨wc.heap.size + 1, j, none⟩ = some u) := fun j u hj => by
       have h := je (wc.alloc (.cells #[.int .i64 kk, .int .i64 nn, .string t, .int .i64 aa, .int .i64 q] 31)) #[.int .i64 kk, .int .i64 nn, .string t, .int .i64 aa, .int .i64 q] 31
       rw [ze] at h
       exact zfi h hj
      have hal : acc.length <= 1000000 := by omega
      have HS1 : Hid (∀ ob ob2, w.heap.size <= ((wc.alloc ob).alloc ob2).heap.size) := fun ob ob2 => (HBW.out ob ob2).size
      have HOL : Hid (vo.ownBlock ≠ some wc.heap.size) := fun e => by have := hO.out.own_lt _ e; have := hw1.out; omega
      have HOG : Hid (∀ k, vo.ownBlock = some k -> w.heap.size <= k) := fun k e => (hO.out.own_lt _ e).1
      go_wp2_with (first
       | (at_builtin; refine appt rfl _ _ 23 rfl w.heap.size 31 Tryz.underlying23 qe vo acc.length (tcs acc) rfl (HO2.out _ _) (wc.heap.size + 1) 1 ⟨kk, nn, t, aa, q⟩ rfl HTM.out hal (HS1.out _ _) ?_; intro g cap' w4 hown hgrow hloc hglt; have hq4 := zm ((hgrow.block _ (Array.getElem?_eq_some_iff.1 (HN.out _)).1 (fun e => HOL.out e.symm)).trans (HN.out _)) 4; have HOWN := hid hown; have HGR := hid hgrow; clear hown hgrow hloc hglt)
       | (go_at_call 23; with_reducible refine (CK.out _).mono ?_; rintro e wd ⟨rfl, rfl⟩))
      go_roundg (s.size + 1 - q)
      case measure => omega
      case rel => exact ⟨acc ++ [⟨kk, nn, t, aa, q⟩], q, f', _, rfl, rfl, rfl, rfl, hqs, by omega, by simp; omega, hid (TOwn.push (d := ⟨kk, nn, t, aa, q⟩) HOWN.out), hid ((HBW.out _ _).grown HGR.out (HS1.out _ _) HOG.out), e1⟩
    ·have a1 : ¬ (aa : Int) < (s.size : Int) := by omega
     have hle : l.length <= (skL l k).1 := by rw [<- haa, HL.out]; omega
     have e1 : Hid (A = (acc ++ [⟨0, 0, ⟨#[]⟩, s.size, s.size⟩], 0, 0)) := by
      unfold Hid; rw [HA2.out, hI.out, fq hbb.symm hle, HL.out]
     have HOW : Hid (∀ ob, TOwn w.heap.size (wr.alloc ob) vo acc) := fun ob => hO.out.below (Ba _ _)
     have HBW : Hid (∀ ob, Below w.heap.size w (wr.alloc ob)) := fun ob => hB.out.trans ((Ba wr ob).mono hB.out.size)
     have HTM : Hid (∀ j u, (tc ⟨0, 0, ⟨#[]⟩, s.size, s.size⟩)[j]? = some u -> (wr.alloc (.cells #[.int .i64 0, .int .i64 0, .string ⟨#[]⟩, .int .i64 s.size, .int .i64 s.size] 31)).cell? ⟨wr.heap.size, j, none⟩ = some u) := fun j u hj => zfi (je wr _ _) hj
     have hal : acc.length <= 1000000 := by omega
     have HS1 : Hid (∀ ob, w.heap.size <= (wr.alloc ob).heap.size) := fun ob => (HBW.out ob).size
     have HOG : Hid (∀ k, vo.ownBlock = some k -> w.heap.size <= k) := fun k e => (hO.out.own_lt _ e).1
     clear hI HA2 haa hbb hle
     go_wp2_with (at_builtin; refine appt rfl _ _ 23 rfl w.heap.size 31 Tryz.underlying23 qe vo acc.length (tcs acc) rfl (HOW.out _) wr.heap.size 1 ⟨0, 0, ⟨#[]⟩, s.size, s.size⟩ rfl HTM.out hal (HS1.out _) ?_; intro g cap' w4 hown hgrow hloc hglt; have HOWN := hid hown; have HGR := hid hgrow; clear hown hgrow hloc hglt)
     go_ret3
     rw [e1.out]
     obtain ⟨ao', cap2, hv2, hT⟩ := (TOwn.push HOWN.out).row
     rw [List.length_append, List.length_singleton] at hv2 hT
     cases hv2
     exact ⟨_, _, _, rfl, hT, (HBW.out _).grown HGR.out (HS1.out _) HOG.out⟩
end Go.Proofs.YtbkfinjajkjhaaaGreatDoor
