import Derived.Test.YtbkfinjajkjhaabGreatDoorLX8
set_option linter.unusedVariables false
set_option linter.unusedSimpArgs false
set_option maxRecDepth 100000
namespace Go.Proofs.YtbkfinjajkjhaabGreatDoor
open Go.RowKit
theorem skL_gap {l : List Nat} {k : Nat} (hk : k <= l.length) : (gapN (l.drop k) = 0 -> (skL l k).1 = k /\ ((skL l k).2 = false -> hasB (l.drop k) [35, 124] = true)) /\ (gapN (l.drop k) ≠ 0 -> skL l k = skL l (k + gapN (l.drop k))) /\ k + gapN (l.drop k) <= l.length := by
 by_cases h : k < l.length
 ·have hne : l.drop k ≠ [] := by intro e; have := congrArg List.length e; rw [List.length_drop] at this; simp at this; omega
  have hg : (l.drop k).getD 0 0 = l.getD k 0 := by rw [dropN_cons h]; rfl
  rw [skL_go h]
  unfold gapN
  rw [if_neg hne, hg]
  by_cases h1 : blkB (l.getD k 0) = true
  ·rw [if_pos h1, if_pos h1]
   exact ⟨fun e => absurd e (by decide), fun _ => rfl, by omega⟩
  ·rw [if_neg h1, if_neg h1]
   by_cases h2 : l.getD k 0 = 59
   ·rw [if_pos h2, if_pos h2]
    have h3 := lineN_pos hne (by rw [hg]; exact h2)
    have h4 := lineN_le (l.drop k)
    rw [List.length_drop] at h4
    exact ⟨fun e => by omega, fun _ => rfl, by omega⟩
   ·rw [if_neg h2, if_neg h2]
    by_cases h3 : hasB (l.drop k) [35, 124] = true
    ·rw [if_pos h3, if_pos h3, rm_first h3, remL_remN (by omega)]
     cases he : remN (l.drop k) with
     | none => exact ⟨fun _ => ⟨rfl, fun _ => h3⟩, fun e => absurd rfl e, by simp; omega⟩
     | some e =>
      obtain ⟨p1, p2⟩ := remN_pos he
      rw [List.length_drop] at p2
      exact ⟨fun e' => by simp at e'; omega, fun _ => by show skL l (e + k) = skL l (k + e); rw [Nat.add_comm], by simp; omega⟩
    ·rw [if_neg h3, if_neg h3]
     exact ⟨fun _ => ⟨rfl, fun e => by cases e⟩, fun e => absurd rfl e, by omega⟩
 ·have e : l.drop k = [] := List.drop_eq_nil_of_le (by omega)
  rw [skL_end h, e]
  exact ⟨fun _ => ⟨rfl, fun e => by cases e⟩, fun e => absurd rfl e, by simp [gapN]; omega⟩
set_option maxHeartbeats 4000000 in
theorem skip_any (ao : Option Addr) (n cap : Nat) (l : List Nat) (k0 : Nat) (w : World) (R : BRow w ao n cap l) (hT : LTabs w) (hsm : n <= 1099511627776) (hk : k0 <= n) : Calls Tryz.prog 13 #[.slice ao n cap, .int .i64 k0] w fun e w' => e = .returned (.int .i64 ((skL l k0).1 : Nat)) /\ Below w.heap.size w w' := by
 have HR := hid R
 have HT := hid hT
 have HLn := hid R.len
 obtain ⟨A, hA⟩ : ∃ A, A = skL l k0 := ⟨_, rfl⟩
 rw [<- hA]
 have HA := hid hA
 have HB0 : Hid (Below w.heap.size w w) := Below.refl _ _
 clear R hT hA
 go_enter Tryz.func13, Tryz.ntmps13
 go_wp2_with fail
 go_loopg [1] (n - k0) (fun g v wx => ∃ k : Nat, v = .int .i64 k /\ k <= n /\ g = n - k /\ Hid (Below w.heap.size w wx) /\ Hid (A = skL l k))
 case atStart => exact ⟨k0, rfl, hk, rfl, HB0.out, HA.out⟩
 case round =>
  obtain ⟨k, rfl, hkn, rfl, hB, hI⟩ := hrel
  clear HB0 HA
  obtain ⟨g1, g2, g3⟩ := skL_gap (l := l) (k := k) (by rw [HLn.out]; exact hkn)
  have hRd := (HR.out.below hB.out).drop (k := k) hkn
  have CG := hid (gapSize_any _ _ _ _ wr hRd (HT.out.below hB.out) (by omega))
  have hsl := fun W => slice_from (w := W) (ao := ao) (n := n) (cap := cap) (k := k) hkn
  have hsl2 := fun W => sliceAt_from (w := W) (ao := ao) (n := n) (cap := cap) (k := k) hkn
  obtain ⟨ax, hax⟩ : ∃ a, a = adv ao cap k := ⟨_, rfl⟩
  rw [<- hax] at CG hsl hsl2
  obtain ⟨q, hq⟩ : ∃ q, q = gapN (l.drop k) := ⟨_, rfl⟩
  rw [<- hq] at CG g1 g2 g3
  rw [HLn.out] at g3
  clear hRd hax hq
  by_cases hz : q = 0
  ·have t1 : ((q : Int) == 0) = true := by simp; omega
   have e1 : Hid (A.1 = k) := by unfold Hid; rw [hI.out]; exact (g1 hz).1
   clear g1 g2 hz hI
   go_wp2_with (go_at_call 17; with_reducible refine CG.out.mono ?_; rintro e wa ⟨rfl, ba⟩; have HBa := hid (hB.out.trans (ba.mono hB.out.size)); clear ba)
   go_ret
   exact ⟨by rw [e1.out]; rfl, HBa.out⟩
  ·have t1 : ((q : Int) == 0) = false := by simp; omega
   have e1 : Hid (A = skL l (k + q)) := hI.out.trans (g2 hz)
   clear g1 g2 hI
   go_wp2_with (go_at_call 17; with_reducible refine CG.out.mono ?_; rintro e wa ⟨rfl, ba⟩; have HBa := hid (hB.out.trans (ba.mono hB.out.size)); clear ba)
   go_roundg (n - (k + q))
   case measure => omega
   case rel => exact ⟨k + q, by go_num, g3, rfl, HBa.out, e1.out⟩
theorem tkM_remark {r : List Nat} (h : hasB r [35, 124] = true) : tkM r = none := by
 have h' := h
 rw [show r = r.drop 0 from (List.drop_zero).symm, hasB_two] at h'
 obtain ⟨h0, h1, h2⟩ := of_decide_eq_true h'
 rw [Nat.zero_add] at h2
 have hb : ∀ a, a ≠ 124 -> hasB r [35, a] = false := fun a ha => by
  rw [show r = r.drop 0 from (List.drop_zero).symm, hasB_two]
  exact decide_eq_false (fun e => ha (by rw [<- e.2.2, Nat.zero_add, h2]))
 have hb4 : hasB r [35, 117, 56, 40] = false := by
  unfold hasB
  apply decide_eq_false
  intro e
  have := congrArg (fun x => List.getD x 1 0) e
  simp only [List.getD_eq_getElem?_getD, List.getElem?_take] at this
  rw [List.getD_eq_getElem?_getD] at h2
  simp [h2] at this
 have hlab : labM r = none := by
  unfold labM
  have : dgA 9 (r.drop 1) 0 0 = (0, 0) := by
   unfold dgA
   rw [if_neg]
   rintro ⟨_, _, h3⟩
   rw [List.getD_eq_getElem?_getD, List.getElem?_drop, <- List.getD_eq_getElem?_getD, h2] at h3
   omega
  rw [this]
  unfold labF
  rw [if_pos (.inl rfl)]
 have htr : truthM (r.take (wordN r)) = none := by
  have key : ∀ t : List Nat, t.getD 1 0 ≠ 124 -> 1 < t.length -> r.take (wordN r) ≠ t := fun t ht hl e => by
   have h3 := congrArg (fun x => List.getD x 1 0) e
   have h4 := congrArg List.length e
   rw [List.length_take] at h4
   simp only [List.getD_eq_getElem?_getD, List.getElem?_take] at h3
   rw [if_pos (by omega)] at h3
   apply ht
   rw [List.getD_eq_getElem?_getD, <- h3, <- List.getD_eq_getElem?_getD, h2]
  unfold truthM
  rw [if_neg (fun e => e.elim (key _ (by decide) (by decide)) (key _ (by decide) (by decide))), if_neg (fun e => e.elim (key _ (by decide) (by decide)) (key _ (by decide) (by decide)))]
 unfold tkM
 rw [h1, if_neg (by decide), if_neg (by decide), if_neg (by decide), if_neg (by decide), if_pos rfl]
 unfold hashM
 rw [hb 40 (by decide), hb 59 (by decide), hb 92 (by decide), hb4, hlab, htr]
 rfl
end Go.Proofs.YtbkfinjajkjhaabGreatDoor
