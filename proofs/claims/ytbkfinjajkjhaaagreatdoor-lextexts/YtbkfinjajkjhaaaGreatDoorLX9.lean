import Derived.Test.YtbkfinjajkjhaaaGreatDoorLX7
import Derived.Test.YtbkfinjajkjhaaaGreatDoorRL10
set_option linter.unusedVariables false
set_option linter.unusedSimpArgs false
set_option maxRecDepth 100000
namespace Go.Proofs.YtbkfinjajkjhaaaGreatDoor
open Go.RowKit
def blkS : ByteArray := ⟨#[32, 9, 10, 13]⟩
def blkI (c : Nat) : Int := Lib.indexByte blkS.data.toList (UInt8.ofNat c)
theorem blkI_is : ∀ c : Fin 256, (blkB c.val = true -> 0 <= blkI c.val) /\ (blkB c.val = false -> blkI c.val = -1) := by decide +kernel
theorem stringsIndexByte_any (s : ByteArray) (c : Nat) (w : World) : Calls Tryz.prog 76 #[.string s, .int .u8 (c : Int)] w fun e w' => e = .returned (.int .i64 (Lib.indexByte s.data.toList (UInt8.ofNat c))) /\ w' = w := by
 have he := fun W => ext_index s c W
 obtain ⟨k, hk⟩ : ∃ k, k = Lib.indexByte s.data.toList (UInt8.ofNat c) := ⟨_, rfl⟩
 rw [<- hk] at he ⊢
 clear hk
 go_enter Tryz.func76, Tryz.ntmps76
 go_wp2
 go_ret
 exact ⟨rfl, rfl⟩
theorem prefix_is {l t : List Nat} (hl : Dg 256 l) (ht : Dg 256 t) : Lib.hasPrefix (Lib.bytesOf (l.map (fun (x : Nat) => (x : Int)))) (Lib.bytesOf (t.map (fun (x : Nat) => (x : Int)))) = hasB l t := by
 unfold Lib.hasPrefix hasB
 rw [Bool.eq_iff_iff, List.isPrefixOf_iff_prefix, decide_eq_true_iff]
 have key : ∀ r : List Nat, Lib.bytesOf (r.map (fun (x : Nat) => (x : Int))) = r.map UInt8.ofNat := fun r => by
  unfold Lib.bytesOf; rw [List.map_map]; rfl
 have inj : ∀ (a b : List Nat), Dg 256 a -> Dg 256 b -> a.map UInt8.ofNat = b.map UInt8.ofNat -> a = b := fun a b ha hb h => by
  have := congrArg (List.map UInt8.toNat) h
  rwa [bytes_back ha, bytes_back hb] at this
 rw [key, key]
 constructor
 ·intro h
  have h2 := List.prefix_iff_eq_take.1 h
  rw [List.length_map, <- List.map_take] at h2
  exact (inj _ _ ht (hl.take _) h2).symm
 ·intro h
  rw [List.prefix_iff_eq_take, List.length_map, <- List.map_take, h]
theorem BRow.bytesIn {w : World} {ao : Option Addr} {n cap : Nat} {l : List Nat} (R : BRow w ao n cap l) : Lib.BytesIn w ao n (l.map (fun (x : Nat) => (x : Int))) := fun hn => by
 obtain ⟨b, o, rfl, hb, hc⟩ := R.rd.some (by rw [R.len]; exact hn)
 exact ⟨b, o, rfl, fun i hi => by rw [hc i (by rw [R.len]; exact hi), List.getD_eq_getElem?_getD, List.getD_eq_getElem?_getD, List.getElem?_map, List.getElem?_eq_getElem (by rw [R.len]; exact hi)]; rfl⟩
theorem hasTwo_any (ao : Option Addr) (n cap : Nat) (l : List Nat) (w : World) (R : BRow w ao n cap l) (a b : Nat) (ha : a < 256) (hb : b < 256) :
  Calls Tryz.prog 61 #[.slice ao n cap, .slice (some ⟨w.heap.size, 0, none⟩) 2 2] (w.alloc (.cells #[.int .u8 (a : Int), .int .u8 (b : Int)] 5 (2, 3))) fun e w' => e = .returned (.bool (hasB l [a, b])) /\ w' = w.alloc (.cells #[.int .u8 (a : Int), .int .u8 (b : Int)] 5 (2, 3)) := by
 have R2 := R.below (Ba w (.cells #[.int .u8 (a : Int), .int .u8 (b : Int)] 5 (2, 3)))
 have hd : Dg 256 [a, b] := by intro x hx; simp at hx; omega
 have h := Any.bytes_HasPrefix_all Tryz.laysnb116 ao (some ⟨w.heap.size, 0, none⟩) n cap 2 2 (l.map (fun (x : Nat) => (x : Int))) ([a, b].map (fun (x : Nat) => (x : Int))) (w.alloc (.cells #[.int .u8 (a : Int), .int .u8 (b : Int)] 5 (2, 3))) (by rw [List.length_map, R.len]) rfl R.fits (BRow.bytesIn R2) (fun _ => ⟨_, _, rfl, fun i hi => by
  have hblk : (w.alloc (.cells #[.int .u8 (a : Int), .int .u8 (b : Int)] 5 (2, 3))).heap[w.heap.size]? = some (.cells #[.int .u8 (a : Int), .int .u8 (b : Int)] 5 (2, 3)) := heap_alloc_new w _
  have hc : ∀ j, (w.alloc (.cells #[.int .u8 (a : Int), .int .u8 (b : Int)] 5 (2, 3))).cell? ⟨w.heap.size, j, none⟩ = #[.int .u8 (a : Int), .int .u8 (b : Int)][j]? := fun j => by unfold World.cell?; rw [hblk]; simp
  rw [hc]
  match i, hi with
  | 0, _ => rfl
  | 1, _ => rfl⟩)
 rw [prefix_is R.dg hd] at h
 exact h
set_option maxHeartbeats 4000000 in
theorem gapSize_any (ao : Option Addr) (n cap : Nat) (l : List Nat) (w : World) (R : BRow w ao n cap l) (hT : LTabs w) (hsm : n <= 1099511627776) : Calls Tryz.prog 60 #[.slice ao n cap] w fun e w' => e = .returned (.int .i64 (gapN l : Nat)) /\ Below w.heap.size w w' := by
 by_cases h0 : n = 0
 ·subst h0
  have hl : l = [] := List.length_eq_zero_iff.1 R.len
  subst hl
  rw [show gapN [] = 0 from rfl]
  clear R
  go_enter Tryz.func60, Tryz.ntmps60
  go_wp2
  go_ret
  exact ⟨rfl, Below.refl _ _⟩
 ·have hn : 0 < n := by omega
  have hne : l ≠ [] := fun e => by have := R.len; rw [e] at this; simp at this; omega
  obtain ⟨b, o, rfl, hb, hc⟩ := R.rd.some (by rw [R.len]; exact hn)
  have hc0 := hc 0 (by rw [R.len]; exact hn)
  obtain ⟨x, hx⟩ : ∃ x, x = l.getD 0 0 := ⟨_, rfl⟩
  have hx256 : x < 256 := by rw [hx, List.getD_eq_getElem?_getD, List.getElem?_eq_getElem (by rw [R.len]; exact hn)]; exact R.dg _ (List.getElem_mem _)
  rw [<- hx, Nat.add_zero] at hc0
  obtain ⟨A, hA⟩ : ∃ A, A = gapN l := ⟨_, rfl⟩
  rw [<- hA]
  unfold gapN at hA
  rw [if_neg hne, <- hx] at hA
  have HA := hid hA
  have n0 : ((n : Int) == 0) = false := by simp; omega
  have n0' : (0 : Int) < (n : Int) := by omega
  have hf := R.fits
  have hm := R.most
  unfold maxLen at hm
  obtain ⟨d1, d2⟩ := blkI_is ⟨x, hx256⟩
  have CI : Hid (∀ W, Calls Tryz.prog 76 #[.string ⟨#[32, 9, 10, 13]⟩, .int .u8 (x : Int)] W fun e w' => e = .returned (.int .i64 (blkI x)) /\ w' = W) := fun W => stringsIndexByte_any blkS x W
  have CL : Hid (Calls Tryz.prog 77 #[.slice (some ⟨b, o, none⟩) n cap, .string ⟨#[10]⟩] w fun e w' => e = .returned (.int .i64 (lineN l : Nat)) /\ Below w.heap.size w w') := sizeTo_line _ n cap l w R hn
  have CP0 := hid (hasTwo_any _ n cap l w R 35 124 (by omega) (by omega))
  have HB : Hid (Below w.heap.size w (w.alloc (.cells #[.int .u8 35, .int .u8 124] 5 (2, 3)))) := Ba w _
  have CR := hid (remarkSize_any _ n cap l _ (R.below HB.out) hsm)
  have HV0 := Go.Joins.run_convert_bytes_const_at (P := Tryz.prog) w 22 5 #[.int .u8 35, .int .u8 124] 2 2 w.heap.size rfl Tryz.underlying22 Tryz.underlying5
  obtain ⟨W2, hW2⟩ : ∃ W, W = w.alloc (.cells #[.int .u8 35, .int .u8 124] 5 (2, 3)) := ⟨_, rfl⟩
  have CP : Hid (Calls Tryz.prog 61 #[.slice (some ⟨b, o, none⟩) n cap, .slice (some ⟨w.heap.size, 0, none⟩) 2 2] W2 fun e w' => e = .returned (.bool (hasB l [35, 124])) /\ w' = W2) := by rw [hW2]; exact CP0.out
  rw [<- hW2] at HB CR
  have HV : (convert 22 22 (.slice (some ⟨w.heap.size, 0, none⟩) 2 2)).run Tryz.prog (w.alloc (.cells #[.int .u8 35, .int .u8 124] 5)) = .ok (.slice (some ⟨w.heap.size, 0, none⟩) 2 2) W2 := by rw [hW2]; exact HV0
  obtain ⟨k, hk⟩ : ∃ k, k = blkI x := ⟨_, rfl⟩
  rw [<- hk] at CI d1 d2
  clear hc R hx hA hW2 hk hne CP0 HV0
  by_cases hbl : blkB x = true
  ·have e1 : Hid (A = 1) := HA.out.trans (if_pos hbl)
   have k0 := d1 hbl
   clear d1 d2 HA hbl
   go_enter Tryz.func60, Tryz.ntmps60
   go_wp2_with (go_at_call 76; with_reducible refine (CI.out _).mono ?_; rintro e wa ⟨rfl, rfl⟩)
   go_ret
   exact ⟨by rw [e1.out]; rfl, Below.refl _ _⟩
  have e0 := hid (HA.out.trans (if_neg hbl))
  have k0 : k = -1 := d2 (by simpa using hbl)
  subst k0
  clear d1 d2 HA hbl
  by_cases h59 : x = 59
  ·have e1 : Hid (A = lineN l) := e0.out.trans (if_pos h59)
   have t1 : ((x : Int) == 59) = true := by simp; omega
   clear e0 h59 CP HV
   go_enter Tryz.func60, Tryz.ntmps60
   go_wp2_with (first
    | (go_at_call 76; with_reducible refine (CI.out _).mono ?_; rintro e wa ⟨rfl, hwa⟩; rw [hwa]; clear hwa)
    | (go_at_call 77; with_reducible refine CL.out.mono ?_; rintro e wb ⟨rfl, bb⟩; have HBB := hid bb; clear bb))
   go_ret
   exact ⟨by rw [e1.out]; rfl, HBB.out⟩
  have t1 : ((x : Int) == 59) = false := by simp; omega
  have e1 := hid (e0.out.trans (if_neg h59))
  clear e0 h59 CL
  obtain ⟨h, hh⟩ : ∃ h, h = hasB l [35, 124] := ⟨_, rfl⟩
  rw [<- hh] at CP e1
  cases h
  ·have e2 : Hid (A = 0) := e1.out
   clear hh e1
   go_enter Tryz.func60, Tryz.ntmps60
   go_wp2_with (first
    | (go_at_call 76; with_reducible refine (CI.out _).mono ?_; rintro e wa ⟨rfl, hwa⟩; rw [hwa]; clear hwa)
    | (go_at_call 61; with_reducible refine CP.out.mono ?_; rintro e wb ⟨rfl, hwb⟩; rw [hwb]; clear hwb))
   go_ret
   exact ⟨by rw [e2.out]; rfl, HB.out⟩
  ·have e2 : Hid (A = rm l 0 0) := e1.out
   clear hh e1
   go_enter Tryz.func60, Tryz.ntmps60
   go_wp2_with (first
    | (go_at_call 76; with_reducible refine (CI.out _).mono ?_; rintro e wa ⟨rfl, hwa⟩; rw [hwa]; clear hwa)
    | (go_at_call 61; with_reducible refine CP.out.mono ?_; rintro e wb ⟨rfl, hwb⟩; rw [hwb]; clear hwb)
    | (go_at_call 78; with_reducible refine CR.out.mono ?_; rintro e wc ⟨rfl, hwc⟩; rw [hwc]; clear hwc))
   go_ret
   exact ⟨by rw [e2.out]; rfl, HB.out⟩
theorem skL_gap {l : List Nat} {k : Nat} (hk : k <= l.length) : (gapN (l.drop k) = 0 -> (skL l k).1 = k /\ ((skL l k).2 = false -> hasB (l.drop k) [35, 124] = true)) /\ (gapN (l.drop k) ≠ 0 -> skL l k = skL l (k + gapN (l.drop k))) /\ k + gapN (l.drop k) <= l.length := by
 by_cases h : k < l.length
 ·have hne : l.drop k ≠ [] := by intro e; have := congrArg List.length e; rw [List.length_drop] at this; simp at this; omega
  have hg : (l.drop k).getD 0 0 = l.getD k 0 := by rw [dropN_cons h]; rfl
  rw [skL_go h]
  unfold gapN
  rw [if_neg hne, hg]
  by_cases h1 : blkB (l.getD k 0) = true
  ·rw [if_pos h1, if_pos h1]
   exact ⟨fun e => absurd e (by decide), fun _ => rfl, by omega⟩
  ·rw [if_neg h1, if_neg h1]
   by_cases h2 : l.getD k 0 = 59
   ·rw [if_pos h2, if_pos h2]
    have h3 := lineN_pos hne (by rw [hg]; exact h2)
    have h4 := lineN_le (l.drop k)
    rw [List.length_drop] at h4
    exact ⟨fun e => by omega, fun _ => rfl, by omega⟩
   ·rw [if_neg h2, if_neg h2]
    by_cases h3 : hasB (l.drop k) [35, 124] = true
    ·rw [if_pos h3, if_pos h3, rm_first h3, remL_remN (by omega)]
     cases he : remN (l.drop k) with
     | none => exact ⟨fun _ => ⟨rfl, fun _ => h3⟩, fun e => absurd rfl e, by simp; omega⟩
     | some e =>
      obtain ⟨p1, p2⟩ := remN_pos he
      rw [List.length_drop] at p2
      exact ⟨fun e' => by simp at e'; omega, fun _ => by show skL l (e + k) = skL l (k + e); rw [Nat.add_comm], by simp; omega⟩
    ·rw [if_neg h3, if_neg h3]
     exact ⟨fun _ => ⟨rfl, fun e => by cases e⟩, fun e => absurd rfl e, by omega⟩
 ·have e : l.drop k = [] := List.drop_eq_nil_of_le (by omega)
  rw [skL_end h, e]
  exact ⟨fun _ => ⟨rfl, fun e => by cases e⟩, fun e => absurd rfl e, by simp [gapN]; omega⟩
set_option maxHeartbeats 4000000 in
theorem skip_any (ao : Option Addr) (n cap : Nat) (l : List Nat) (k0 : Nat) (w : World) (R : BRow w ao n cap l) (hT : LTabs w) (hsm : n <= 1099511627776) (hk : k0 <= n) : Calls Tryz.prog 37 #[.slice ao n cap, .int .i64 k0] w fun e w' => e = .returned (.int .i64 ((skL l k0).1 : Nat)) /\ Below w.heap.size w w' := by
 have HR := hid R
 have HT := hid hT
 have HLn := hid R.len
 obtain ⟨A, hA⟩ : ∃ A, A = skL l k0 := ⟨_, rfl⟩
 rw [<- hA]
 have HA := hid hA
 have HB0 : Hid (Below w.heap.size w w) := Below.refl _ _
 clear R hT hA
 go_enter Tryz.func37, Tryz.ntmps37
 go_wp2_with fail
 go_loopg [1] (n - k0) (fun g v wx => ∃ k : Nat, v = .int .i64 k /\ k <= n /\ g = n - k /\ Hid (Below w.heap.size w wx) /\ Hid (A = skL l k))
 case atStart => exact ⟨k0, rfl, hk, rfl, HB0.out, HA.out⟩
 case round =>
  obtain ⟨k, rfl, hkn, rfl, hB, hI⟩ := hrel
  clear HB0 HA
  obtain ⟨g1, g2, g3⟩ := skL_gap (l := l) (k := k) (by rw [HLn.out]; exact hkn)
  have hRd := (HR.out.below hB.out).drop (k := k) hkn
  have CG := hid (gapSize_any _ _ _ _ wr hRd (HT.out.below hB.out) (by omega))
  have hsl := fun W => slice_from (w := W) (ao := ao) (n := n) (cap := cap) (k := k) hkn
  have hsl2 := fun W => sliceAt_from (w := W) (ao := ao) (n := n) (cap := cap) (k := k) hkn
  obtain ⟨ax, hax⟩ : ∃ a, a = adv ao cap k := ⟨_, rfl⟩
  rw [<- hax] at CG hsl hsl2
  obtain ⟨q, hq⟩ : ∃ q, q = gapN (l.drop k) := ⟨_, rfl⟩
  rw [<- hq] at CG g1 g2 g3
  rw [HLn.out] at g3
  clear hRd hax hq
  by_cases hz : q = 0
  ·have t1 : ((q : Int) == 0) = true := by simp; omega
   have e1 : Hid (A.1 = k) := by unfold Hid; rw [hI.out]; exact (g1 hz).1
   clear g1 g2 hz hI
   go_wp2_with (go_at_call 60; with_reducible refine CG.out.mono ?_; rintro e wa ⟨rfl, ba⟩; have HBa := hid (hB.out.trans (ba.mono hB.out.size)); clear ba)
   go_ret
   exact ⟨by rw [e1.out]; rfl, HBa.out⟩
  ·have t1 : ((q : Int) == 0) = false := by simp; omega
   have e1 : Hid (A = skL l (k + q)) := hI.out.trans (g2 hz)
   clear g1 g2 hI
   go_wp2_with (go_at_call 60; with_reducible refine CG.out.mono ?_; rintro e wa ⟨rfl, ba⟩; have HBa := hid (hB.out.trans (ba.mono hB.out.size)); clear ba)
   go_roundg (n - (k + q))
   case measure => omega
   case rel => exact ⟨k + q, by go_num, g3, rfl, HBa.out, e1.out⟩
theorem tkM_remark {r : List Nat} (h : hasB r [35, 124] = true) : tkM r = none := by
 have h' := h
 rw [show r = r.drop 0 from (List.drop_zero).symm, hasB_two] at h'
 obtain ⟨h0, h1, h2⟩ := of_decide_eq_true h'
 rw [Nat.zero_add] at h2
 have hb : ∀ a, a ≠ 124 -> hasB r [35, a] = false := fun a ha => by
  rw [show r = r.drop 0 from (List.drop_zero).symm, hasB_two]
  exact decide_eq_false (fun e => ha (by rw [<- e.2.2, Nat.zero_add, h2]))
 have hb4 : hasB r [35, 117, 56, 40] = false := by
  unfold hasB
  apply decide_eq_false
  intro e
  have := congrArg (fun x => List.getD x 1 0) e
  simp only [List.getD_eq_getElem?_getD, List.getElem?_take] at this
  rw [List.getD_eq_getElem?_getD] at h2
  simp [h2] at this
 have hlab : labM r = none := by
  unfold labM
  have : dgA 9 (r.drop 1) 0 0 = (0, 0) := by
   unfold dgA
   rw [if_neg]
   rintro ⟨_, _, h3⟩
   rw [List.getD_eq_getElem?_getD, List.getElem?_drop, <- List.getD_eq_getElem?_getD, h2] at h3
   omega
  rw [this]
  unfold labF
  rw [if_pos (.inl rfl)]
 have htr : truthM (r.take (wordN r)) = none := by
  have key : ∀ t : List Nat, t.getD 1 0 ≠ 124 -> 1 < t.length -> r.take (wordN r) ≠ t := fun t ht hl e => by
   have h3 := congrArg (fun x => List.getD x 1 0) e
   have h4 := congrArg List.length e
   rw [List.length_take] at h4
   simp only [List.getD_eq_getElem?_getD, List.getElem?_take] at h3
   rw [if_pos (by omega)] at h3
   apply ht
   rw [List.getD_eq_getElem?_getD, <- h3, <- List.getD_eq_getElem?_getD, h2]
  unfold truthM
  rw [if_neg (fun e => e.elim (key _ (by decide) (by decide)) (key _ (by decide) (by decide))), if_neg (fun e => e.elim (key _ (by decide) (by decide)) (key _ (by decide) (by decide)))]
 unfold tkM
 rw [h1, if_neg (by decide), if_neg (by decide), if_neg (by decide), if_neg (by decide), if_pos rfl]
 unfold hashM
 rw [hb 40 (by decide), hb 59 (by decide), hb 92 (by decide), hb4, hlab, htr]
 rfl
end Go.Proofs.YtbkfinjajkjhaaaGreatDoor
