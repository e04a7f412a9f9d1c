import Derived.Test.YtbkfinjajkjhaabGreatDoorLX7
import Derived.Test.YtbkfinjajkjhaabGreatDoorLShelf
set_option linter.unusedVariables false
set_option linter.unusedSimpArgs false
set_option maxRecDepth 100000
namespace Go.Proofs.YtbkfinjajkjhaabGreatDoor
open Go.RowKit
def blkS : ByteArray := ⟨#[32, 9, 10, 13]⟩
def blkI (c : Nat) : Int := Lib.indexByte blkS.data.toList (UInt8.ofNat c)
theorem blkI_is : ∀ c : Fin 256, (blkB c.val = true -> 0 <= blkI c.val) /\ (blkB c.val = false -> blkI c.val = -1) := by decide +kernel
theorem stringsIndexByte_any (s : ByteArray) (c : Nat) (w : World) : Calls Tryz.prog 23 #[.string s, .int .u8 (c : Int)] w fun e w' => e = .returned (.int .i64 (Lib.indexByte s.data.toList (UInt8.ofNat c))) /\ w' = w := by
 have he := fun W => ext_index s c W
 obtain ⟨k, hk⟩ : ∃ k, k = Lib.indexByte s.data.toList (UInt8.ofNat c) := ⟨_, rfl⟩
 rw [<- hk] at he ⊢
 clear hk
 go_enter Tryz.func23, Tryz.ntmps23
 go_wp2
 go_ret
 exact ⟨rfl, rfl⟩
theorem prefix_is {l t : List Nat} (hl : Dg 256 l) (ht : Dg 256 t) : Lib.hasPrefix (Lib.bytesOf (l.map (fun (x : Nat) => (x : Int)))) (Lib.bytesOf (t.map (fun (x : Nat) => (x : Int)))) = hasB l t := by
 unfold Lib.hasPrefix hasB
 rw [Bool.eq_iff_iff, List.isPrefixOf_iff_prefix, decide_eq_true_iff]
 have key : ∀ r : List Nat, Lib.bytesOf (r.map (fun (x : Nat) => (x : Int))) = r.map UInt8.ofNat := fun r => by
  unfold Lib.bytesOf; rw [List.map_map]; rfl
 have inj : ∀ (a b : List Nat), Dg 256 a -> Dg 256 b -> a.map UInt8.ofNat = b.map UInt8.ofNat -> a = b := fun a b ha hb h => by
  have := congrArg (List.map UInt8.toNat) h
  rwa [bytes_back ha, bytes_back hb] at this
 rw [key, key]
 constructor
 ·intro h
  have h2 := List.prefix_iff_eq_take.1 h
  rw [List.length_map, <- List.map_take] at h2
  exact (inj _ _ ht (hl.take _) h2).symm
 ·intro h
  rw [List.prefix_iff_eq_take, List.length_map, <- List.map_take, h]
theorem BRow.bytesIn {w : World} {ao : Option Addr} {n cap : Nat} {l : List Nat} (R : BRow w ao n cap l) : Lib.BytesIn w ao n (l.map (fun (x : Nat) => (x : Int))) := fun hn => by
 obtain ⟨b, o, rfl, hb, hc⟩ := R.rd.some (by rw [R.len]; exact hn)
 exact ⟨b, o, rfl, fun i hi => by rw [hc i (by rw [R.len]; exact hi), List.getD_eq_getElem?_getD, List.getD_eq_getElem?_getD, List.getElem?_map, List.getElem?_eq_getElem (by rw [R.len]; exact hi)]; rfl⟩
theorem hasTwo_any (ao : Option Addr) (n cap : Nat) (l : List Nat) (w : World) (R : BRow w ao n cap l) (a b : Nat) (ha : a < 256) (hb : b < 256) :
  Calls Tryz.prog 18 #[.slice ao n cap, .slice (some ⟨w.heap.size, 0, none⟩) 2 2] (w.alloc (.cells #[.int .u8 (a : Int), .int .u8 (b : Int)] 5 (2, 3))) fun e w' => e = .returned (.bool (hasB l [a, b])) /\ w' = w.alloc (.cells #[.int .u8 (a : Int), .int .u8 (b : Int)] 5 (2, 3)) := by
 have R2 := R.below (Ba w (.cells #[.int .u8 (a : Int), .int .u8 (b : Int)] 5 (2, 3)))
 have hd : Dg 256 [a, b] := by intro x hx; simp at hx; omega
 have h := Any.bytes_HasPrefix_all Tryz.laysnb116 ao (some ⟨w.heap.size, 0, none⟩) n cap 2 2 (l.map (fun (x : Nat) => (x : Int))) ([a, b].map (fun (x : Nat) => (x : Int))) (w.alloc (.cells #[.int .u8 (a : Int), .int .u8 (b : Int)] 5 (2, 3))) (by rw [List.length_map, R.len]) rfl R.fits (BRow.bytesIn R2) (fun _ => ⟨_, _, rfl, fun i hi => by
  have hblk : (w.alloc (.cells #[.int .u8 (a : Int), .int .u8 (b : Int)] 5 (2, 3))).heap[w.heap.size]? = some (.cells #[.int .u8 (a : Int), .int .u8 (b : Int)] 5 (2, 3)) := heap_alloc_new w _
  have hc : ∀ j, (w.alloc (.cells #[.int .u8 (a : Int), .int .u8 (b : Int)] 5 (2, 3))).cell? ⟨w.heap.size, j, none⟩ = #[.int .u8 (a : Int), .int .u8 (b : Int)][j]? := fun j => by unfold World.cell?; rw [hblk]; simp
  rw [hc]
  match i, hi with
  | 0, _ => rfl
  | 1, _ => rfl⟩)
 rw [prefix_is R.dg hd] at h
 exact h
set_option maxHeartbeats 4000000 in
theorem gapSize_any (ao : Option Addr) (n cap : Nat) (l : List Nat) (w : World) (R : BRow w ao n cap l) (hT : LTabs w) (hsm : n <= 1099511627776) : Calls Tryz.prog 17 #[.slice ao n cap] w fun e w' => e = .returned (.int .i64 (gapN l : Nat)) /\ Below w.heap.size w w' := by
 by_cases h0 : n = 0
 ·subst h0
  have hl : l = [] := List.length_eq_zero_iff.1 R.len
  subst hl
  rw [show gapN [] = 0 from rfl]
  clear R
  go_enter Tryz.func17, Tryz.ntmps17
  go_wp2
  go_ret
  exact ⟨rfl, Below.refl _ _⟩
 ·have hn : 0 < n := by omega
  have hne : l ≠ [] := fun e => by have := R.len; rw [e] at this; simp at this; omega
  obtain ⟨b, o, rfl, hb, hc⟩ := R.rd.some (by rw [R.len]; exact hn)
  have hc0 := hc 0 (by rw [R.len]; exact hn)
  obtain ⟨x, hx⟩ : ∃ x, x = l.getD 0 0 := ⟨_, rfl⟩
  have hx256 : x < 256 := by rw [hx, List.getD_eq_getElem?_getD, List.getElem?_eq_getElem (by rw [R.len]; exact hn)]; exact R.dg _ (List.getElem_mem _)
  rw [<- hx, Nat.add_zero] at hc0
  obtain ⟨A, hA⟩ : ∃ A, A = gapN l := ⟨_, rfl⟩
  rw [<- hA]
  unfold gapN at hA
  rw [if_neg hne, <- hx] at hA
  have HA := hid hA
  have n0 : ((n : Int) == 0) = false := by simp; omega
  have n0' : (0 : Int) < (n : Int) := by omega
  have hf := R.fits
  have hm := R.most
  unfold maxLen at hm
  obtain ⟨d1, d2⟩ := blkI_is ⟨x, hx256⟩
  have CI : Hid (∀ W, Calls Tryz.prog 23 #[.string ⟨#[32, 9, 10, 13]⟩, .int .u8 (x : Int)] W fun e w' => e = .returned (.int .i64 (blkI x)) /\ w' = W) := fun W => stringsIndexByte_any blkS x W
  have CL : Hid (Calls Tryz.prog 24 #[.slice (some ⟨b, o, none⟩) n cap, .string ⟨#[10]⟩] w fun e w' => e = .returned (.int .i64 (lineN l : Nat)) /\ Below w.heap.size w w') := sizeTo_line _ n cap l w R hn
  have CP0 := hid (hasTwo_any _ n cap l w R 35 124 (by omega) (by omega))
  have HB : Hid (Below w.heap.size w (w.alloc (.cells #[.int .u8 35, .int .u8 124] 5 (2, 3)))) := Ba w _
  have CR := hid (remarkSize_any _ n cap l _ (R.below HB.out) hsm)
  have HV0 := Go.Joins.run_convert_bytes_const_at (P := Tryz.prog) w 22 5 #[.int .u8 35, .int .u8 124] 2 2 w.heap.size rfl Tryz.underlying22 Tryz.underlying5
  obtain ⟨W2, hW2⟩ : ∃ W, W = w.alloc (.cells #[.int .u8 35, .int .u8 124] 5 (2, 3)) := ⟨_, rfl⟩
  have CP : Hid (Calls Tryz.prog 18 #[.slice (some ⟨b, o, none⟩) n cap, .slice (some ⟨w.heap.size, 0, none⟩) 2 2] W2 fun e w' => e = .returned (.bool (hasB l [35, 124])) /\ w' = W2) := by rw [hW2]; exact CP0.out
  rw [<- hW2] at HB CR
  have HV : (convert 22 22 (.slice (some ⟨w.heap.size, 0, none⟩) 2 2)).run Tryz.prog (w.alloc (.cells #[.int .u8 35, .int .u8 124] 5)) = .ok (.slice (some ⟨w.heap.size, 0, none⟩) 2 2) W2 := by rw [hW2]; exact HV0
  obtain ⟨k, hk⟩ : ∃ k, k = blkI x := ⟨_, rfl⟩
  rw [<- hk] at CI d1 d2
  clear hc R hx hA hW2 hk hne CP0 HV0
  by_cases hbl : blkB x = true
  ·have e1 : Hid (A = 1) := HA.out.trans (if_pos hbl)
   have k0 := d1 hbl
   clear d1 d2 HA hbl
   go_enter Tryz.func17, Tryz.ntmps17
   go_wp2_with (go_at_call 23; with_reducible refine (CI.out _).mono ?_; rintro e wa ⟨rfl, rfl⟩)
   go_ret
   exact ⟨by rw [e1.out]; rfl, Below.refl _ _⟩
  have e0 := hid (HA.out.trans (if_neg hbl))
  have k0 : k = -1 := d2 (by simpa using hbl)
  subst k0
  clear d1 d2 HA hbl
  by_cases h59 : x = 59
  ·have e1 : Hid (A = lineN l) := e0.out.trans (if_pos h59)
   have t1 : ((x : Int) == 59) = true := by simp; omega
   clear e0 h59 CP HV
   go_enter Tryz.func17, Tryz.ntmps17
   go_wp2_with (first
    | (go_at_call 23; with_reducible refine (CI.out _).mono ?_; rintro e wa ⟨rfl, hwa⟩; rw [hwa]; clear hwa)
    | (go_at_call 24; with_reducible refine CL.out.mono ?_; rintro e wb ⟨rfl, bb⟩; have HBB := hid bb; clear bb))
   go_ret
   exact ⟨by rw [e1.out]; rfl, HBB.out⟩
  have t1 : ((x : Int) == 59) = false := by simp; omega
  have e1 := hid (e0.out.trans (if_neg h59))
  clear e0 h59 CL
  obtain ⟨h, hh⟩ : ∃ h, h = hasB l [35, 124] := ⟨_, rfl⟩
  rw [<- hh] at CP e1
  cases h
  ·have e2 : Hid (A = 0) := e1.out
   clear hh e1
   go_enter Tryz.func17, Tryz.ntmps17
   go_wp2_with (first
    | (go_at_call 23; with_reducible refine (CI.out _).mono ?_; rintro e wa ⟨rfl, hwa⟩; rw [hwa]; clear hwa)
    | (go_at_call 18; with_reducible refine CP.out.mono ?_; rintro e wb ⟨rfl, hwb⟩; rw [hwb]; clear hwb))
   go_ret
   exact ⟨by rw [e2.out]; rfl, HB.out⟩
  ·have e2 : Hid (A = rm l 0 0) := e1.out
   clear hh e1
   go_enter Tryz.func17, Tryz.ntmps17
   go_wp2_with (first
    | (go_at_call 23; with_reducible refine (CI.out _).mono ?_; rintro e wa ⟨rfl, hwa⟩; rw [hwa]; clear hwa)
    | (go_at_call 18; with_reducible refine CP.out.mono ?_; rintro e wb ⟨rfl, hwb⟩; rw [hwb]; clear hwb)
    | (go_at_call 25; with_reducible refine CR.out.mono ?_; rintro e wc ⟨rfl, hwc⟩; rw [hwc]; clear hwc))
   go_ret
   exact ⟨by rw [e2.out]; rfl, HB.out⟩
end Go.Proofs.YtbkfinjajkjhaabGreatDoor
