import Derived.Test.YtbkfinjajkjhaabGreatDoorLV6
set_option linter.unusedVariables false
set_option linter.unusedSimpArgs false
set_option maxRecDepth 100000
namespace Go.Proofs.YtbkfinjajkjhaabGreatDoor
open Go.RowKit
set_option maxHeartbeats 16000000 in
theorem lexSteps_walk (ao : Option Addr) (n cap : Nat) (l : List Nat) (w : World) (R : BRow w ao n cap l) (hT : LTabs w) : Calls Tryz.prog 4 #[.slice ao n cap] w fun e w' => e = .returned (.bool true) /\ Below w.heap.size w w' := by
 by_cases hn : 5000 < n
 ·have n1 : (5000 : Int) < (n : Int) := by omega
  clear R hT
  go_enter Tryz.func4, Tryz.ntmps4
  go_wp2_with fail
  go_ret
  exact ⟨rfl, Below.refl _ _⟩
 ·have n1 : ¬ (5000 : Int) < (n : Int) := by omega
  have HR := hid R
  have HT := hid hT
  have HL : Hid (l.length = n) := R.len
  have CT := hid (tokens_any ao n cap l w R hT (by omega))
  have HT0 : Hid (toksM l = ([] ++ (toksA (n + 1) l 0).1, (toksA (n + 1) l 0).2)) := by unfold Hid toksM; rw [HL.out]; rfl
  clear R hT
  go_enter Tryz.func4, Tryz.ntmps4
  go_wp2_with fail
  go_at_call 5
  with_reducible refine CT.out.mono ?_
  rintro e wa ⟨ao2, n2, cap2, rfl, T1, ba⟩
  have HT1 := hid T1
  have HBa := hid ba
  have HLn : Hid ((ansM l).1.length = n2) := T1.len
  obtain ⟨A, hA⟩ : ∃ A, A = ansM l := ⟨_, rfl⟩
  rw [<- hA] at HT1 HLn ⊢
  obtain ⟨L, ye, yn⟩ := A
  have HA : Hid (ansM l = (L, ye, yn)) := hA.symm
  have HT2 : Hid (TRow wa ao2 n2 cap2 L) := HT1.out
  have HLn2 : Hid (L.length = n2) := HLn.out
  simp only
  clear T1 ba CT hA HT1 HLn
  go_wp2_with fail
  go_loopg [6, 7] (n + 1) (fun g v6 v7 wr => ∃ (acc : List Tok) (k f : Nat), g = n + 1 - k /\ v6 = .int .i64 k /\ v7 = .int .i64 acc.length /\ k <= n /\ n < k + f /\ acc.length <= k /\ Hid (Bnd l k) /\ Hid (Below wa.heap.size wa wr) /\ Hid (toksM l = (acc ++ (toksA f l k).1, (toksA f l k).2)))
  case atStart => exact ⟨[], 0, n + 1, rfl, rfl, rfl, Nat.zero_le _, by omega, Nat.le_refl _, .inl rfl, Below.refl _ _, HT0.out⟩
  case round =>
   obtain ⟨acc, k, f, rfl, rfl, rfl, hk, hf, hacc, hBn, hB, hI⟩ := hrel
   clear HT0
   obtain ⟨f', rfl⟩ : ∃ f', f = f' + 1 := ⟨f - 1, by omega⟩
   have HBw : Hid (Below w.heap.size w wr) := Bt HBa.out hB.out
   have CN := hid (next_any ao n cap l k wr (HR.out.below HBw.out) (HT.out.below HBw.out) (by omega) hk hBn.out)
   have hkl : k <= l.length := by rw [HL.out]; exact hk
   obtain ⟨i, hi⟩ : ∃ i, i = acc.length := ⟨_, rfl⟩
   have HIl := hid hi
   rw [<- hi] at hacc ⊢
   have i0 : (i : Int) <= (n : Int) := by omega
   clear hi
   go_wp2_with fail
   go_at_call 7
   with_reducible refine CN.out.mono ?_
   rintro e wb ⟨xa, xb, xt, xf, xu, er, pl, rfl, hp1, hp2, hp3, bb⟩
   have HBb : Hid (Below w.heap.size w wb) := Bt HBw.out bb
   have HBab : Hid (Below wa.heap.size wa wb) := Bt hB.out bb
   have CW := hid (fun W (h : Below wb.heap.size wb W) => lawake_any W ((HT.out.below HBb.out).below h))
   have HFin : Hid (∀ W W', Below wb.heap.size wb W -> Below W.heap.size W W' -> Below w.heap.size w W') := fun W W' h h' => Bt (Bt HBb.out h) h'
   clear bb CN
   unfold tkV
   by_cases hc : (chkM l).1 = 0
   ·obtain ⟨h1, h2, h3⟩ := chk_ok hc
    rw [HA.out] at h3
    have hp2 := hp2 hc
    have hp3 := hp3 hc
    clear hp1 hc h1 h2
    obtain ⟨S, hS⟩ : ∃ S, S = stepM l k := ⟨_, rfl⟩
    rw [<- hS] at hp2 hp3
    cases S with
    | none =>
     obtain ⟨rfl, rfl⟩ := hp2 rfl
     rw [hI.out, toks_none hkl hS.symm] at h3
     obtain ⟨q, hq⟩ : ∃ q, q = (skL l k).1 := ⟨_, rfl⟩
     rw [<- hq] at h3 ⊢
     simp only [Prod.mk.injEq] at h3
     obtain ⟨_, rfl, rfl⟩ := h3
     have t2 : ((q : Int) == (q : Int)) = true := by simp
     clear hp2 hp3 hS hq hI hkl
     go_wp2_with (go_at_call 6; with_reducible refine (CW.out _ (Ba wb _)).mono ?_; rintro e wd ⟨rfl, bd⟩; have HBd := hid (HFin.out _ _ (Ba wb _) bd); clear bd)
     go_ret
     exact ⟨rfl, HBd.out⟩
    | some x =>
     obtain ⟨y1, y2, y3, aa, q5⟩ := x
     obtain ⟨rfl, rfl, rfl, rfl, rfl, rfl⟩ := hp3 _ rfl
     have hst := step_kind hkl hBn.out hS.symm
     have HLst : Hid (l.length <= (skL l k).1 -> toksA (f' + 1) l k = ([⟨0, 0, ⟨#[]⟩, l.length, l.length⟩], none)) := fun h => step_last hkl hS.symm h
     have HST := hid hst
     have H3 := hid h3
     clear hp2 hp3 hS hst h3 hkl
     have HG : Hid ((∃ (b o : Nat), ye = 0 /\ i < n2 /\ ao2 = some ⟨b, o, none⟩ /\ (∀ ob j, j < 5 -> (wb.alloc ob).cell? ⟨b, o + i * 5 + j, none⟩ = (tc ⟨xa, xb, xt, aa, q5⟩)[j]?) /\ (xa = 0 -> n2 = i + 1)) \/ (ye = 31 /\ xa ≠ 0)) := by
      have hx : ∃ r, toksM l = (acc ++ ⟨xa, xb, xt, aa, q5⟩ :: r, (toksA (f' + 1) l k).2) /\ (xa = 0 -> r = [] /\ (toksA (f' + 1) l k).2 = none) := by
       rcases HST.out with ⟨g1, g2, g3⟩ | ⟨g1, _, _, _, g5⟩
       ·refine ⟨[], ?_, fun _ => ⟨rfl, by rw [HLst.out g2]⟩⟩
        rw [hI.out, HLst.out g2, g3]
       ·refine ⟨(toksA f' l q5).1, ?_, fun e => absurd e g1⟩
        rw [hI.out, g5 f']
      obtain ⟨r, hr1, hr2⟩ := hx
      have h3 := H3.out
      rw [hr1] at h3
      cases hz : (toksA (f' + 1) l k).2 with
      | none =>
       rw [hz] at h3
       simp only [Prod.mk.injEq] at h3
       obtain ⟨hL, h0, _⟩ := h3
       have hlen : n2 = i + (r.length + 1) := by rw [<- HLn2.out, hL, HIl.out, List.length_append, List.length_cons]
       have hRow := HT2.out.below HBab.out
       obtain ⟨b, o, hao, hbl, hcl⟩ := hRow.some (by omega)
       refine .inl ⟨b, o, h0, by omega, hao, fun ob j hj => ?_, fun e => by rw [hlen, (hr2 e).1]; rfl⟩
       have hgd : L.getD i default = ⟨xa, xb, xt, aa, q5⟩ := by
        rw [hL, List.getD_eq_getElem?_getD, List.getElem?_append_right (by rw [HIl.out]; exact Nat.le_refl _), HIl.out, Nat.sub_self]; rfl
       rw [<- hgd, <- hcl i (by omega) j hj]
       exact (Ba wb ob).cell (p := ⟨b, o + i * 5 + j, none⟩) hbl
      | some p =>
       rw [hz] at h3
       simp only [Prod.mk.injEq] at h3
       refine .inr ⟨h3.2.1, fun e => ?_⟩
       have := (hr2 e).2
       rw [hz] at this; cases this
     have HE : Hid (xa ≠ 0 -> k < q5 /\ q5 <= n /\ Bnd l q5 /\ toksM l = ((acc ++ [⟨xa, xb, xt, aa, q5⟩]) ++ (toksA f' l q5).1, (toksA f' l q5).2)) := fun hx => by
      rcases HST.out with ⟨h1, _⟩ | ⟨_, h2, h3, h4, h5⟩
      ·exact absurd h1 hx
      ·refine ⟨h2, by rw [<- HL.out]; exact h3, h4, ?_⟩
       rw [hI.out, h5]; simp
     clear HST HLst H3 hI HLn2 HT2 HA
     rcases HG.out with ⟨b, o, rfl, hin, rfl, hcl, hlast⟩ | ⟨rfl, hx0⟩
     ·have a0 := fun ob => hcl ob 0 (by omega)
      have a1 := fun ob => hcl ob 1 (by omega)
      have a2 := fun ob => hcl ob 2 (by omega)
      have a3 := fun ob => hcl ob 3 (by omega)
      have a4 := fun ob => hcl ob 4 (by omega)
      simp only [tc, List.getElem?_cons_zero, List.getElem?_cons_succ, Nat.add_zero] at a0 a1 a2 a3 a4
      have i1 : ¬ (n2 : Int) <= (i : Int) := by omega
      have i1b : decide ((n2 : Int) <= (i : Int)) = false := decide_eq_false i1
      have i2 : (i : Int) < (n2 : Int) := by omega
      have i3 : (0 : Int) <= (i : Int) := by omega
      have HLa := hid hlast
      clear hcl HG hlast
      go_wp2_with fail
      go_quiet (fail)
      have HQ : Hid (Below wb.heap.size wb ((wb.alloc (.cells #[.int .i64 xa, .int .i64 xb, .string xt, .int .i64 aa, .int .i64 q5] 29)).drewN nq)) := Bdn (Ba wb _) nq
      by_cases hx0 : xa = 0
      ·subst hx0
       have hm := HLa.out rfl
       subst hm
       have t5 : ((i : Int) == ((i + 1 : Nat) : Int) - 1) = true := by simp
       have CW2 := hid (CW.out _ HQ.out)
       go_wp2_with (go_at_call 6; with_reducible refine CW2.out.mono ?_; rintro e wd ⟨rfl, bd⟩; have HBd := hid (HFin.out _ _ HQ.out bd); clear bd)
       go_ret
       exact ⟨rfl, HBd.out⟩
      ·have t5 : (xa == 0) = false := by simp; exact hx0
       obtain ⟨e1, e2, e3, e4⟩ := HE.out hx0
       have e5 : ¬ (q5 : Int) <= (k : Int) := by omega
       have HN := hid e3
       have HM := hid e4
       clear e3 e4 hx0 HLa HE CW
       go_wp2_with fail
       go_roundg (n + 1 - q5)
       case measure => omega
       case rel => exact ⟨acc ++ [⟨xa, xb, xt, aa, q5⟩], q5, f', rfl, rfl, by rw [List.length_append, <- HIl.out]; rfl, e2, by omega, by rw [List.length_append, <- HIl.out, List.length_singleton]; omega, HN, hid (Bt HBab.out HQ.out), HM⟩
     ·have t5 : (xa == 0) = false := by simp; exact hx0
      obtain ⟨e1, e2, e3, e4⟩ := HE.out hx0
      have e5 : ¬ (q5 : Int) <= (k : Int) := by omega
      have HN := hid e3
      have HM := hid e4
      clear e3 e4 hx0 HG HE CW
      go_wp2_with fail
      go_quiet (fail)
      have HQ : Hid (Below wb.heap.size wb ((wb.alloc (.cells #[.int .i64 xa, .int .i64 xb, .string xt, .int .i64 aa, .int .i64 q5] 29)).drewN nq)) := Bdn (Ba wb _) nq
      go_wp2_with fail
      go_roundg (n + 1 - q5)
      case measure => omega
      case rel => exact ⟨acc ++ [⟨xa, xb, xt, aa, q5⟩], q5, f', rfl, rfl, by rw [List.length_append, <- HIl.out]; rfl, e2, by omega, by rw [List.length_append, <- HIl.out, List.length_singleton]; omega, HN, hid (Bt HBab.out HQ.out), HM⟩
   ·have hA := ans_chk hc
    rw [HA.out] at hA
    obtain ⟨rfl, rfl⟩ := hp1 hc
    clear hp1 hp2 hp3
    obtain ⟨ce, hce⟩ : ∃ c, c = (chkM l).1 := ⟨_, rfl⟩
    obtain ⟨cp, hcp⟩ : ∃ c, c = (chkM l).2 := ⟨_, rfl⟩
    rw [<- hce, <- hcp] at hA ⊢
    rw [<- hce] at hc
    simp only [Prod.mk.injEq] at hA
    obtain ⟨_, rfl, rfl⟩ := hA
    have t1 : (ye == 0) = false := by simp; exact hc
    have t2 : (ye == ye) = true := by simp
    have t3 : ((cp : Int) == (cp : Int)) = true := by simp
    clear hce hcp hc
    go_wp2_with (go_at_call 6; with_reducible refine (CW.out _ (Ba wb _)).mono ?_; rintro e wd ⟨rfl, bd⟩; have HBd := hid (HFin.out _ _ (Ba wb _) bd); clear bd)
    go_ret
    exact ⟨rfl, HBd.out⟩
end Go.Proofs.YtbkfinjajkjhaabGreatDoor
