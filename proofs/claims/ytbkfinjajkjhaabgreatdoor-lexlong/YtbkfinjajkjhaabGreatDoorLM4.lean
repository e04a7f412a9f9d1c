import Derived.Test.YtbkfinjajkjhaabGreatDoorLX3
set_option linter.unusedVariables false
set_option linter.unusedSimpArgs false
set_option maxRecDepth 100000
namespace Go.Proofs.YtbkfinjajkjhaabGreatDoor
open Go.RowKit
set_option maxRecDepth 1000000 in
theorem set_any (w : World) : Calls Tryz.prog 59 #[.string dlmS] w fun e w' => e = .returned (.tuple #[.agg (Lib.setCells dlmS.data.toList), .bool true]) /\ w' = w.alloc (.cells (Lib.setCells dlmS.data.toList) 91) :=
 Any.bytes_makeASCIISet Tryz.laysSlV11 (fun w => (Tryz.zeroValue91 w).trans (by rfl)) (by kernel_rfl) dlmS w (by decide) (fun j b hj => by
  obtain ⟨h, rfl⟩ := List.getElem?_eq_some_iff.1 hj
  exact dlmS_lt j h)
theorem should_any (n : Int) (w : World) : Calls Tryz.prog 58 #[.int .i64 n] w fun e w' => e = .returned (.bool (decide (8 < n))) /\ w' = w := by
 go_enter Tryz.func58, Tryz.ntmps58
 go_wp2
 go_ret
 exact ⟨rfl, rfl⟩
theorem contains_any (b c : Nat) (hc : c < 256) (v : Bool) (w : World) (h : w.cell? ⟨b, c, none⟩ = some (.bool v)) : Calls Tryz.prog 60 #[.pointer (some ⟨b, 0, none⟩), .int .u8 (c : Int)] w fun e w' => e = .returned (.bool v) /\ w' = w := by
 have e : (UInt8.ofNat c).toNat = c := by rw [UInt8.toNat_ofNat']; omega
 have := Any.bytes_asciiSet_contains Tryz.laysSlV16 b (UInt8.ofNat c) v w (by rw [e]; exact h)
 rw [e] at this
 exact this
set_option maxRecDepth 100000 in
theorem dlm_contains : ∀ c : Fin 256, dlmS.data.toList.contains (UInt8.ofNat c.val) = dlmB c.val := by decide +kernel
theorem wordN_all {l : List Nat} {k : Nat} (h : k <= l.length) (hw : wordN l = k + wordN (l.drop k)) : (k = l.length -> anyI l = -1) /\ (dlmB (l.getD k 0) = true -> k < l.length -> anyI l = (k : Int)) /\ (dlmB (l.getD k 0) = false -> k < l.length -> wordN l = (k + 1) + wordN (l.drop (k + 1))) := by
 refine ⟨fun e => ?_, fun hd hl => ?_, fun hd hl => ?_⟩
 ·unfold anyI; rw [hw, e, List.drop_length]; simp [wordN]
 ·unfold anyI; rw [hw, wordN_stop hl hd]; simp [hl]
 ·rw [hw, wordN_go hl hd]; omega
set_option maxHeartbeats 4000000 in
theorem indexAny_long (ao : Option Addr) (n cap : Nat) (l : List Nat) (w : World) (R : BRow w ao n cap l) (h8 : 8 < n) : Calls Tryz.prog 38 #[.slice ao n cap, .string dlmS] w fun e w' => e = .returned (.int .i64 (anyI l)) /\ Below w.heap.size w w' := by
 have hs0 := dlmS_ne.1
 have CS := hid set_any
 obtain ⟨C, hC⟩ : ∃ C, C = Lib.setCells dlmS.data.toList := ⟨_, rfl⟩
 rw [<- hC] at CS
 have hCs : C.size = 256 := by rw [hC]; exact Lib.setCells_size _
 have hC1 : C.all (·.oneCell') = true := by rw [hC]; exact Lib.setCells_one _
 have hCc : ∀ c, c < 256 -> C[c]? = some (.bool (dlmB c)) := fun c hc => by
  have := Lib.setCells_at dlmS.data.toList (UInt8.ofNat c)
  rw [UInt8.toNat_ofNat', dlm_contains ⟨c, hc⟩] at this
  rw [hC, <- this, show c % 2 ^ 8 = c by omega]
 have HST : Hid (∀ W : World, (storeCells ⟨W.heap.size + 1, 0, none⟩ C.toList 0).run Tryz.prog ((W.alloc (.cells C 91)).alloc (.cells Tryz.zeroCells91 91)) = .ok () ((W.alloc (.cells C 91)).alloc (.cells C 91))) := fun W => by
  have := run_storeCells_new (P := Tryz.prog) (W.alloc (.cells C 91)) 91 Tryz.zeroCells91 C (by rw [hCs]; kernel_rfl) (by rw [hCs]; kernel_rfl) hC1
  rw [size_alloc] at this
  exact this
 have HC : Hid (∀ (W : World) c, c < 256 -> ((W.alloc (.cells C 91)).alloc (.cells C 91)).cell? ⟨W.heap.size + 1, c, none⟩ = some (.bool (dlmB c))) := fun W c hc => by
  have := blk_new (W.alloc (.cells C 91)) C 91
  rw [size_alloc] at this
  rw [blk_cell this, hCc c hc]
 obtain ⟨S, hS⟩ : ∃ S, dlmS = S := ⟨_, rfl⟩
 have hSz : S.size = 8 := by rw [<- hS]; rfl
 have hem : S.toList.isEmpty = false := by rw [<- hS]; exact dlmS_ne.2
 rw [hS] at CS hs0 ⊢
 have hst := HST.out w
 have HCC := hid (HC.out w)
 have HB2 : Hid (Below w.heap.size w ((w.alloc (.cells C 91)).alloc (.cells C 91))) := Baa w _ _
 have HR2 := hid (R.below HB2.out)
 have HLn := hid R.len
 clear hC hS hC1 hCc HST HC
 obtain ⟨W2, hW2⟩ : ∃ W, W = (w.alloc (.cells C 91)).alloc (.cells C 91) := ⟨_, rfl⟩
 rw [<- hW2] at hst HCC HB2 HR2
 clear hW2
 obtain ⟨A, hA⟩ : ∃ A, A = anyI l := ⟨_, rfl⟩
 rw [<- hA]
 have HA := hid hA
 have HW0 : Hid (wordN l = 0 + wordN (l.drop 0)) := by unfold Hid; simp
 clear hA R
 have n1 : ((n : Int) == 1) = false := by simp; omega
 have n8 : (8 : Int) < (n : Int) := by omega
 have CU : Hid (∀ wx, Calls Tryz.prog 58 #[.int .i64 n] wx fun e w' => e = .returned (.bool true) /\ w' = wx) := fun wx => (should_any n wx).mono fun e w' ⟨h1, h2⟩ => ⟨by rw [h1, decide_eq_true n8], h2⟩
 go_enter Tryz.func38, Tryz.ntmps38
 go_wp2_with (first
  | (go_at_call 58; with_reducible refine (CU.out _).mono ?_; rintro e wa ⟨rfl, hwa⟩; rw [hwa]; clear hwa)
  | (go_at_call 59; with_reducible refine (CS.out _).mono ?_; rintro e wb ⟨rfl, hwb⟩; rw [hwb]; clear hwb))
 go_loopg [62] n (fun g v wx => ∃ k : Nat, v = .int .i64 k /\ k <= n /\ g = n - k /\ wx = W2 /\ Hid (wordN l = k + wordN (l.drop k)))
 case atStart => exact ⟨0, rfl, Nat.zero_le _, rfl, rfl, HW0.out⟩
 case round =>
  obtain ⟨k, rfl, hk, rfl, rfl, hI⟩ := hrel
  obtain ⟨w1, w2, w3⟩ := wordN_all (l := l) (k := k) (by rw [HLn.out]; exact hk) hI.out
  clear hst
  by_cases hlt : k < n
  ·obtain ⟨b, o, rfl, hb, hc⟩ := HR2.out.rd.some (by rw [HLn.out]; omega)
   have hcell := hc k (by rw [HLn.out]; exact hlt)
   obtain ⟨x, hx⟩ : ∃ x, x = l.getD k 0 := ⟨_, rfl⟩
   have hx256 : x < 256 := by rw [hx, List.getD_eq_getElem?_getD, List.getElem?_eq_getElem (by rw [HLn.out]; exact hlt)]; exact HR2.out.dg _ (List.getElem_mem _)
   rw [<- hx] at hcell w2 w3
   have k1 : (k : Int) < (n : Int) := by omega
   have CX := hid (contains_any (w.heap.size + 1) x hx256 (dlmB x) wr (HCC.out x hx256))
   have hrf := HR2.out.fits
   have hrm := HR2.out.most
   unfold maxLen at hrm
   clear hc hx
   obtain ⟨d, hd⟩ : ∃ d, d = dlmB x := ⟨_, rfl⟩
   rw [<- hd] at CX w2 w3
   cases d
   ·have e1 := hid (w3 rfl (by rw [HLn.out]; exact hlt))
    clear w1 w2 w3 hI hd
    go_wp2_with (go_at_call 60; with_reducible refine CX.out.mono ?_; rintro e wb ⟨rfl, rfl⟩)
    go_roundg (n - (k + 1))
    case measure => omega
    case rel => exact ⟨k + 1, by go_num, by omega, rfl, rfl, e1.out⟩
   ·have e1 : Hid (A = (k : Int)) := HA.out.trans (w2 rfl (by rw [HLn.out]; exact hlt))
    clear w1 w2 w3 hI hd
    go_wp2_with (go_at_call 60; with_reducible refine CX.out.mono ?_; rintro e wb ⟨rfl, rfl⟩)
    go_ret
    exact ⟨by rw [e1.out]; rfl, HB2.out⟩
  ·have e1 : Hid (A = -1) := HA.out.trans (w1 (by rw [HLn.out]; omega))
   have k1 : ¬ (k : Int) < (n : Int) := by omega
   clear w1 w2 w3 hI
   go_wp2_with fail
   go_ret
   exact ⟨by rw [e1.out]; rfl, HB2.out⟩
def decN (r : List Nat) : Nat × Nat := Lib.decodeN r.length (r.getD 0 0) (r.getD 1 0) (r.getD 2 0) (r.getD 3 0)
theorem bstr_get (r : List Nat) (hd : Dg 256 r) (j : Nat) : ((bstr r).get! j).toNat = r.getD j 0 := by
 by_cases h : j < r.length
 ·have hj : j < (bstr r).size := by rw [bstr_size]; exact h
  rw [Utf8W.get!_of_lt _ _ hj, <- bs_get _ _ hj, bs_bstr hd]
 ·rw [List.getD_eq_getElem?_getD, List.getElem?_eq_none (by omega)]
  have hj : ¬ j < (bstr r).size := by rw [bstr_size]; exact h
  have : (bstr r).get! j = 0 := by
   show (bstr r).data[j]! = 0
   exact getElem!_neg _ _ hj
  rw [this]; rfl
theorem decN_is {r : List Nat} (hd : Dg 256 r) : Utf8.decode (bstr r) 0 = decN r := by
 rw [Lib.decode_at, bstr_size, bstr_get r hd, bstr_get r hd, bstr_get r hd, bstr_get r hd]
 rfl
theorem decGo_is {r : List Nat} (hd : Dg 256 r) (hr : r ≠ []) : Lib.decodeGo (bstr r) = decN r := by
 unfold Lib.decodeGo
 rw [if_neg (by rw [bstr_size]; exact fun h => hr (List.length_eq_zero_iff.1 h)), decN_is hd]
theorem decN_low {r : List Nat} (h : r.getD 0 0 < 128) : decN r = (r.getD 0 0, 1) := by
 unfold decN Lib.decodeN; rw [if_pos h]
theorem decN_high {r : List Nat} (hr : r ≠ []) (h : 128 <= r.getD 0 0) : 128 <= (decN r).1 /\ (decN r).1 <= 1114111 /\ 1 <= (decN r).2 /\ (decN r).2 <= 4 /\ (decN r).2 <= r.length /\ ∀ j, j < (decN r).2 -> 128 <= r.getD j 0 := by
 have hl : 0 < r.length := List.length_pos_iff.2 hr
 unfold decN
 rcases Lib.decodeN_shape r.length (r.getD 0 0) (r.getD 1 0) (r.getD 2 0) (r.getD 3 0) with ⟨h1, _⟩ | ⟨h0, h1, h2, h3, e⟩ | ⟨h0, h1, h2, h3, h4, h5, e⟩ | ⟨h0, h1, h2, h3, h4, h5, h6, e⟩ | e
 ·omega
 ·rw [e]
  refine ⟨h3, by show _ <= _; omega, by show 1 <= _; omega, by show _ <= 4; omega, h1, fun j hj => ?_⟩
  have hj : j < 2 := hj
  match j, hj with
  | 0, _ => exact h
  | 1, _ => omega
 ·rw [e]
  refine ⟨by show 128 <= _; omega, by show _ <= _; omega, by show 1 <= _; omega, by show _ <= 4; omega, h1, fun j hj => ?_⟩
  have hj : j < 3 := hj
  match j, hj with
  | 0, _ => exact h
  | 1, _ => omega
  | 2, _ => omega
 ·rw [e]
  refine ⟨by show 128 <= _; omega, h6, by show 1 <= _; omega, by show _ <= 4; omega, h1, fun j hj => ?_⟩
  have hj : j < 4 := hj
  match j, hj with
  | 0, _ => exact h
  | 1, _ => omega
  | 2, _ => omega
  | 3, _ => omega
 ·rw [e]
  refine ⟨by decide, by decide, by decide, by decide, hl, fun j hj => ?_⟩
  have hj : j < 1 := hj
  match j, hj with
  | 0, _ => exact h
theorem decN_le {r : List Nat} (hr : r ≠ []) : 1 <= (decN r).2 /\ (decN r).2 <= 4 /\ (decN r).2 <= r.length := by
 have hl : 0 < r.length := List.length_pos_iff.2 hr
 by_cases h : r.getD 0 0 < 128
 ·rw [decN_low h]; exact ⟨Nat.le_refl _, by show 1 <= 4; decide, hl⟩
 ·obtain ⟨_, _, h1, h2, h3, _⟩ := decN_high hr (by omega)
  exact ⟨h1, h2, h3⟩
theorem runeL_dec {r : List Nat} (hd : Dg 256 r) : runeL r = if decN r = (65533, 1) then (0, 0) else decN r := by
 unfold runeL runeD
 rw [decN_is hd]
theorem dlmB_high' {c : Nat} (h : 128 <= c) : dlmB c = false := by
 unfold dlmB blkB
 simp
 omega
theorem wordN_skip : ∀ (k : Nat) (l : List Nat), k <= l.length -> (∀ j, j < k -> 128 <= l.getD j 0) -> wordN l = k + wordN (l.drop k)
 | 0, l, _, _ => by simp
 | k + 1, l, h, hj => by
  have h0 : 0 < l.length := by omega
  have := wordN_go (l := l) (k := 0) h0 (dlmB_high' (hj 0 (by omega)))
  rw [List.drop_zero, Nat.zero_add] at this
  rw [this, wordN_skip k (l.drop 1) (by rw [List.length_drop]; omega) (fun j hjk => by
   have := hj (1 + j) (by omega)
   rw [List.getD_eq_getElem?_getD] at this
   rw [List.getD_eq_getElem?_getD, List.getElem?_drop]; exact this), List.drop_drop, Nat.add_comm 1 k]
  omega
theorem decodeRune_any (ao : Option Addr) (n cap : Nat) (r : List Nat) (w : World) (R : BRow w ao n cap r) (hn : 0 < n) (hT : LTabs w) : Calls Tryz.prog 42 #[.slice ao n cap] w fun e w' => e = .returned (.tuple #[.int .i32 (decN r).1, .int .i64 (decN r).2]) /\ Below w.heap.size w w' := by
 obtain ⟨b, o, rfl, hb, hc⟩ := R.rd.some (by rw [R.len]; exact hn)
 have hr : r ≠ [] := fun e => by have := R.len; rw [e] at this; simp at this; omega
 have h := Any7.utf8_DecodeRune Tryz.lays7n32 (bstr r) b o cap w hT.utf (fun j hj => by
  rw [bstr_get r R.dg]; exact hc j (by rw [<- bstr_size]; exact hj))
 rw [decGo_is R.dg hr, bstr_size, R.len] at h
 exact h
end Go.Proofs.YtbkfinjajkjhaabGreatDoor
