import Derived.Test.YtbkfinjajkjhaaaGreatDoorRL6
import Derived.Laws.Cover4
set_option linter.unusedVariables false
set_option linter.unusedSimpArgs false
set_option maxRecDepth 100000
namespace Go.Proofs.YtbkfinjajkjhaaaGreatDoor
open Go.RowKit
def semiN : List Nat -> Nat
 | [] => 0
 | c :: r => if c = 59 then 0 else semiN r + 1
theorem semiN_le : ∀ r : List Nat, semiN r <= r.length
 | [] => by simp [semiN]
 | c :: r => by unfold semiN; split <;> simp; exact semiN_le r
theorem semiN_end {l : List Nat} {k : Nat} (h : ¬ k < l.length) : semiN (l.drop k) = 0 := by
 rw [List.drop_eq_nil_of_le (by omega)]; rfl
theorem semiN_stop {l : List Nat} {k : Nat} (h : k < l.length) (hd : l.getD k 0 = 59) : semiN (l.drop k) = 0 := by
 rw [dropN_cons h]; unfold semiN; rw [if_pos hd]
theorem semiN_go {l : List Nat} {k : Nat} (h : k < l.length) (hd : l.getD k 0 ≠ 59) : semiN (l.drop k) = semiN (l.drop (k + 1)) + 1 := by
 rw [dropN_cons h]; conv => lhs; unfold semiN
 rw [if_neg hd]
def escM (r : List Nat) : Option (Nat × Nat) :=
 if r.length <= 1 then none
 else if r.getD 1 0 = 34 then some (34, 2) else if r.getD 1 0 = 92 then some (92, 2) else if r.getD 1 0 = 110 then some (10, 2) else if r.getD 1 0 = 116 then some (9, 2) else if r.getD 1 0 = 114 then some (13, 2)
 else if r.getD 1 0 = 120 then (if semiN (r.drop 2) < (r.drop 2).length then (numH ((r.drop 2).take (semiN (r.drop 2)))).map (fun n => (n, semiN (r.drop 2) + 3)) else none)
 else none
def escV (r : List Nat) : Nat × Nat := (escM r).getD (0, 0)
theorem numH_long {t : List Nat} (h : 6 < t.length) : numH t = none := by unfold numH; rw [if_neg (by omega)]
set_option maxHeartbeats 8000000 in
theorem resc_any (s : ByteArray) (p : Nat) (w : World) (hs : s.size <= 5000) (hp : p < s.size) : Calls Tryz.prog 65 #[.string s, .int .i64 p] w fun e w' => e = .returned (.tuple #[.int .i64 ((escV ((bs s).drop p)).1 : Nat), .int .i64 ((escV ((bs s).drop p)).2 : Nat)]) /\ Below w.heap.size w w' := by
 have hl := bs_length s
 obtain ⟨R, hR⟩ : ∃ R, R = escV ((bs s).drop p) := ⟨_, rfl⟩
 rw [<- hR]
 by_cases h1 : s.size <= p + 1
 ·have e0 : Hid (R = (0, 0)) := by unfold Hid; rw [hR]; unfold escV escM; rw [if_pos (by rw [List.length_drop, hl]; omega)]; rfl
  have h1' : (s.size : Int) <= (p : Int) + 1 := by omega
  clear hl hR
  go_enter Tryz.func65, Tryz.ntmps65
  go_wp2_with fail
  go_ret2
  exact ⟨by rw [e0.out]; rfl, Below.refl _ _⟩
 ·have h2 : p + 1 < s.size := by omega
  have hb := bs_get s (p + 1) h2
  have hg : ((bs s).drop p).getD 1 0 = (s[p + 1]'h2).toNat := by rw [<- hb]; simp [List.getD_eq_getElem?_getD]
  have HR : Hid (R = ((if (s[p + 1]'h2).toNat = 34 then some (34, 2) else if (s[p + 1]'h2).toNat = 92 then some (92, 2) else if (s[p + 1]'h2).toNat = 110 then some (10, 2) else if (s[p + 1]'h2).toNat = 116 then some (9, 2) else if (s[p + 1]'h2).toNat = 114 then some (13, 2)
   else if (s[p + 1]'h2).toNat = 120 then (if semiN ((bs s).drop (p + 2)) < ((bs s).drop (p + 2)).length then (numH (((bs s).drop (p + 2)).take (semiN ((bs s).drop (p + 2))))).map (fun n => (n, semiN ((bs s).drop (p + 2)) + 3)) else none)
   else none) : Option (Nat × Nat)).getD (0, 0)) := by
   unfold Hid
   rw [hR]; unfold escV escM
   rw [if_neg (by rw [List.length_drop, hl]; omega), hg, List.drop_drop]
  have q0 : ¬ ((s.size : Int) <= (p : Int) + 1) := by omega
  have q1 : (0 : Int) <= (p : Int) + 1 := by omega
  have q2 : (p : Int) + 1 < (s.size : Int) := by omega
  have HL := hid hl
  clear hl hR hb hg
  by_cases n1 : (s[p + 1]'h2).toNat = 34
  ·have t1 : (((s[p + 1]'h2).toNat : Int) == 34) = true := by simp; omega
   have e0 : Hid (R = (34, 2)) := by unfold Hid; rw [HR.out, if_pos n1]; rfl
   have v0 : Hid ((s[p + 1]'h2).toNat = 34) := n1
   clear HR n1
   go_enter Tryz.func65, Tryz.ntmps65
   go_wp2_with fail
   go_ret2
   exact ⟨by rw [e0.out]; show Ending.returned (.tuple #[.int .i64 (wrap64 ((s[p + 1]'h2).toNat : Int)), .int .i64 2]) = _; rw [v0.out, show wrap64 ((34 : Nat) : Int) = 34 by unfold wrap64; omega]; rfl, Below.refl _ _⟩
  have t1 : (((s[p + 1]'h2).toNat : Int) == 34) = false := by simp; omega
  rw [if_neg n1] at HR
  clear n1
  by_cases n1 : (s[p + 1]'h2).toNat = 92
  ·have t2 : (((s[p + 1]'h2).toNat : Int) == 92) = true := by simp; omega
   have e0 : Hid (R = (92, 2)) := by unfold Hid; rw [HR.out, if_pos n1]; rfl
   have v0 : Hid ((s[p + 1]'h2).toNat = 92) := n1
   clear HR n1
   go_enter Tryz.func65, Tryz.ntmps65
   go_wp2_with fail
   go_ret2
   exact ⟨by rw [e0.out]; show Ending.returned (.tuple #[.int .i64 (wrap64 ((s[p + 1]'h2).toNat : Int)), .int .i64 2]) = _; rw [v0.out, show wrap64 ((92 : Nat) : Int) = 92 by unfold wrap64; omega]; rfl, Below.refl _ _⟩
  have t2 : (((s[p + 1]'h2).toNat : Int) == 92) = false := by simp; omega
  rw [if_neg n1] at HR
  clear n1
  by_cases n1 : (s[p + 1]'h2).toNat = 110
  ·have t3 : (((s[p + 1]'h2).toNat : Int) == 110) = true := by simp; omega
   have e0 : Hid (R = (10, 2)) := by unfold Hid; rw [HR.out, if_pos n1]; rfl
   clear HR n1
   go_enter Tryz.func65, Tryz.ntmps65
   go_wp2_with fail
   go_ret2
   exact ⟨by rw [e0.out]; rfl, Below.refl _ _⟩
  have t3 : (((s[p + 1]'h2).toNat : Int) == 110) = false := by simp; omega
  rw [if_neg n1] at HR
  clear n1
  by_cases n1 : (s[p + 1]'h2).toNat = 116
  ·have t4 : (((s[p + 1]'h2).toNat : Int) == 116) = true := by simp; omega
   have e0 : Hid (R = (9, 2)) := by unfold Hid; rw [HR.out, if_pos n1]; rfl
   clear HR n1
   go_enter Tryz.func65, Tryz.ntmps65
   go_wp2_with fail
   go_ret2
   exact ⟨by rw [e0.out]; rfl, Below.refl _ _⟩
  have t4 : (((s[p + 1]'h2).toNat : Int) == 116) = false := by simp; omega
  rw [if_neg n1] at HR
  clear n1
  by_cases n1 : (s[p + 1]'h2).toNat = 114
  ·have t5 : (((s[p + 1]'h2).toNat : Int) == 114) = true := by simp; omega
   have e0 : Hid (R = (13, 2)) := by unfold Hid; rw [HR.out, if_pos n1]; rfl
   clear HR n1
   go_enter Tryz.func65, Tryz.ntmps65
   go_wp2_with fail
   go_ret2
   exact ⟨by rw [e0.out]; rfl, Below.refl _ _⟩
  have t5 : (((s[p + 1]'h2).toNat : Int) == 114) = false := by simp; omega
  rw [if_neg n1] at HR
  clear n1
  by_cases n1 : (s[p + 1]'h2).toNat = 120
  ·have t6 : (((s[p + 1]'h2).toNat : Int) == 120) = true := by simp; omega
   rw [if_pos n1] at HR
   clear n1
   go_enter Tryz.func65, Tryz.ntmps65
   go_wp2_with fail
   go_loop [6] (fun v => ∃ i : Nat, v = .int .i64 i /\ p + 2 <= i /\ i <= s.size /\ i <= p + 9 /\ Hid (semiN ((bs s).drop (p + 2)) = (i - (p + 2)) + semiN ((bs s).drop i))) (fun v => s.size - (intOf v).toNat)
   case atStart => exact ⟨p + 2, by go_num, by omega, by omega, by omega, by unfold Hid; omega⟩
   case round =>
    obtain ⟨i, rfl, hi1, hi2, hi3, hI⟩ := hrel
    by_cases hlt : i < s.size /\ i < p + 9
    ·obtain ⟨hlt, hlt9⟩ := hlt
     have i0 : (0 : Int) <= (i : Int) := by omega
     have i1 : (i : Int) < (s.size : Int) := by omega
     have i2 : (i : Int) < (p : Int) + 9 := by omega
     have hbi := bs_get s i hlt
     by_cases h59 : (s[i]'hlt).toNat = 59
     ·have u1 : (((s[i]'hlt).toNat : Int) == 59) = true := by simp; omega
      have e1 : semiN ((bs s).drop (p + 2)) = i - (p + 2) := by rw [hI.out, semiN_stop (by rw [HL.out]; exact hlt) (by rw [hbi]; exact h59)]; rfl
      rw [e1, if_pos (by rw [List.length_drop, HL.out]; omega)] at HR
      obtain ⟨L, hL⟩ : ∃ L, L = numH (((bs s).drop (p + 2)).take (i - (p + 2))) := ⟨_, rfl⟩
      rw [<- hL] at HR
      have CN : Hid (∀ wx, Calls Tryz.prog 90 #[.string (s.extract (p + 2) i)] wx fun e w' => e = .returned (.int .i64 (plI L)) /\ Below wx.heap.size wx w') := fun wx => by
       have h := rnumber_any (s.extract (p + 2) i) wx (by rw [ByteArray.size_extract]; omega)
       rw [bs_ext_at, <- hL] at h
       exact h
      have j1 : (p : Int) + 2 <= (i : Int) := by omega
      have j2 : (0 : Int) <= (p : Int) + 2 := by omega
      clear hL e1 h59 hbi hI
      cases L with
      | none =>
       unfold plI at CN
       have e0 : Hid (R = (0, 0)) := HR.out
       clear HR
       go_wp2_with (go_at_call 90; with_reducible refine (CN.out _).mono ?_; rintro e wc ⟨rfl, bc⟩)
       go_ret2
       exact ⟨by rw [e0.out]; rfl, bc⟩
      | some n =>
       unfold plI at CN
       have e0 : Hid (R = (n, i - (p + 2) + 3)) := HR.out
       have n0 : ¬ ((n : Int) < 0) := by omega
       clear HR
       go_wp2_with (go_at_call 90; with_reducible refine (CN.out _).mono ?_; rintro e wc ⟨rfl, bc⟩)
       go_ret2
       refine ⟨?_, bc⟩
       rw [e0.out]
       have e3 : ((i : Int) + 1 - (p : Int)) = ((i - (p + 2) + 3 : Nat) : Int) := by omega
       show Ending.returned (.tuple #[.int .i64 (n : Int), .int .i64 ((i : Int) + 1 - (p : Int))]) = _
       rw [e3]
     ·have u1 : (((s[i]'hlt).toNat : Int) == 59) = false := by simp; omega
      have e1 : Hid (semiN ((bs s).drop (p + 2)) = (i + 1 - (p + 2)) + semiN ((bs s).drop (i + 1))) := by unfold Hid; rw [hI.out, semiN_go (by rw [HL.out]; exact hlt) (by rw [hbi]; exact h59)]; omega
      clear h59 hbi hI
      go_wp2_with fail
      go_round
      case rel => exact ⟨i + 1, by go_num, by omega, by omega, by omega, e1.out⟩
      case measure => simp [intOf]; omega
    ·have e0 : Hid (R = (0, 0)) := by
      unfold Hid
      rw [HR.out]
      by_cases hz : i < s.size
      ·have h7 : 6 < semiN ((bs s).drop (p + 2)) := by rw [hI.out]; omega
       split
       ·rename_i hq
        rw [numH_long (by rw [List.length_take]; omega)]; rfl
       ·rfl
      ·rw [hI.out, semiN_end (by rw [HL.out]; exact hz), List.length_drop, HL.out, if_neg (by omega)]; rfl
     clear HR hI
     by_cases hz : i < s.size
     ·have i1 : (i : Int) < (s.size : Int) := by omega
      have i2 : ¬ ((i : Int) < (p : Int) + 9) := by omega
      go_wp2_with fail
      go_ret2
      exact ⟨by rw [e0.out]; rfl, Below.refl _ _⟩
     ·have i1 : ¬ ((i : Int) < (s.size : Int)) := by omega
      go_wp2_with fail
      go_ret2
      exact ⟨by rw [e0.out]; rfl, Below.refl _ _⟩
  have t6 : (((s[p + 1]'h2).toNat : Int) == 120) = false := by simp; omega
  rw [if_neg n1] at HR
  have e0 : Hid (R = (0, 0)) := HR.out
  clear n1 HR
  go_enter Tryz.func65, Tryz.ntmps65
  go_wp2_with fail
  go_ret2
  exact ⟨by rw [e0.out]; rfl, Below.refl _ _⟩
theorem decode_max (s : ByteArray) (i : Nat) : (Utf8.decode s i).1 <= 1114111 := by
 rw [decode_eq]
 have h0 := byteAt_lt s i
 split
 ·show byteAt s i <= _; omega
 ·split
  ·split
   ·show byteAt s i % 32 * 64 + byteAt s (i + 1) % 64 <= _; omega
   ·show 65533 <= _; omega
  ·split
   ·split
    ·show byteAt s i % 16 * 4096 + byteAt s (i + 1) % 64 * 64 + byteAt s (i + 2) % 64 <= _; omega
    ·show 65533 <= _; omega
   ·split
    ·split
     ·rename_i hv
      rw [Bool.and_eq_true] at hv
      have := hv.2
      rw [<- letB_valid] at this
      unfold letB at this
      simp only [Bool.and_eq_true, decide_eq_true_eq] at this
      show byteAt s i % 8 * 262144 + byteAt s (i + 1) % 64 * 4096 + byteAt s (i + 2) % 64 * 64 + byteAt s (i + 3) % 64 <= _
      omega
     ·show 65533 <= _; omega
    ·show 65533 <= _; omega
theorem runeL_max (t : List Nat) : (runeL t).1 <= 1114111 := by
 unfold runeL runeD
 split
 ·simp
 ·exact decode_max _ _
theorem escV_max (r : List Nat) : (escV r).1 <= 1114111 := by
 unfold escV escM
 split
 ·simp
 ·repeat' split
  all_goals try simp
  cases h : numH ((r.drop 2).take (semiN (r.drop 2))) with
  | none => simp
  | some n =>
   unfold numH at h
   split at h
   ·rename_i hh
    cases h
    have := hh.2.2
    unfold letB at this
    simp only [Bool.and_eq_true, decide_eq_true_eq] at this
    simp
    omega
   ·cases h
theorem escV_le {r : List Nat} (hr : r ≠ []) : (escV r).2 <= r.length := by
 unfold escV escM
 split
 ·simp
 ·rename_i h1
  have h2 := semiN_le (r.drop 2)
  rw [List.length_drop] at h2
  repeat' split
  all_goals first | (simp; omega) | exact Nat.zero_le _ | skip
  cases h : numH ((r.drop 2).take (semiN (r.drop 2))) with
  | none => simp
  | some n =>
   rename_i hlt
   rw [List.length_drop] at hlt
   simp
   omega
def itemM (r : List Nat) : Nat × Nat := if r.getD 0 0 = 92 then escV r else runeL r
theorem itemM_le {r : List Nat} (hr : r ≠ []) : (itemM r).2 <= r.length := by
 unfold itemM; split
 ·exact escV_le hr
 ·exact runeL_le hr
theorem itemM_max (r : List Nat) : (itemM r).1 <= 1114111 := by
 unfold itemM; split
 ·exact escV_max r
 ·exact runeL_max r
def txA : Nat -> List Nat -> ByteArray -> Nat -> Nat -> Option (ByteArray × Nat × Nat)
 | 0, _, _, _, _ => none
 | n + 1, r, T, c, k => if r = [] then none else if r.getD 0 0 = 34 then some (T, c, k + 1)
  else if (itemM r).2 = 0 then none else txA n (r.drop (itemM r).2) (T ++ Utf8.encode ((itemM r).1 : Nat)) (c + 1) (k + (itemM r).2)
theorem txA_fuel : ∀ (n m : Nat) (r : List Nat) (T : ByteArray) (c k : Nat), r.length <= n -> r.length <= m -> txA n r T c k = txA m r T c k
 | 0, 0, _, _, _, _, _, _ => rfl
 | 0, m + 1, r, T, c, k, h, _ => by
  have : r = [] := List.length_eq_zero_iff.1 (by omega)
  unfold txA; rw [if_pos this]
 | n + 1, 0, r, T, c, k, _, h => by
  have : r = [] := List.length_eq_zero_iff.1 (by omega)
  unfold txA; rw [if_pos this]
 | n + 1, m + 1, r, T, c, k, h, h' => by
  unfold txA
  by_cases e : r = []
  ·rw [if_pos e, if_pos e]
  ·rw [if_neg e, if_neg e]
   by_cases e1 : r.getD 0 0 = 34
   ·rw [if_pos e1, if_pos e1]
   ·rw [if_neg e1, if_neg e1]
    by_cases e2 : (itemM r).2 = 0
    ·rw [if_pos e2, if_pos e2]
    ·rw [if_neg e2, if_neg e2]
     have hl : 0 < r.length := List.length_pos_iff.2 e
     exact txA_fuel n m _ _ _ _ (by rw [List.length_drop]; omega) (by rw [List.length_drop]; omega)
def txL (l : List Nat) (k : Nat) (T : ByteArray) (c : Nat) : Option (ByteArray × Nat × Nat) := txA (l.length - k) (l.drop k) T c k
theorem txL_end {l : List Nat} {k : Nat} {T : ByteArray} {c : Nat} (h : ¬ k < l.length) : txL l k T c = none := by
 unfold txL; rw [show l.length - k = 0 by omega]; rfl
theorem txL_go {l : List Nat} {k : Nat} {T : ByteArray} {c : Nat} (h : k < l.length) : txL l k T c = if l.getD k 0 = 34 then some (T, c, k + 1) else if (itemM (l.drop k)).2 = 0 then none else txL l (k + (itemM (l.drop k)).2) (T ++ Utf8.encode ((itemM (l.drop k)).1 : Nat)) (c + 1) := by
 unfold txL
 obtain ⟨m, hm⟩ : ∃ m, l.length - k = m + 1 := ⟨l.length - k - 1, by omega⟩
 have e : l.drop k ≠ [] := by intro e; have := congrArg List.length e; rw [List.length_drop] at this; simp at this; omega
 have hg : (l.drop k).getD 0 0 = l.getD k 0 := by rw [dropN_cons h]; rfl
 rw [hm]
 conv => lhs; unfold txA
 rw [if_neg e, hg, List.drop_drop]
 by_cases e2 : (itemM (l.drop k)).2 = 0
 ·rw [if_pos e2, if_pos e2]
 ·rw [if_neg e2, if_neg e2, txA_fuel m (l.length - (k + (itemM (l.drop k)).2)) _ _ _ _ (by rw [List.length_drop]; omega) (by rw [List.length_drop]; omega)]
def txFin (p : Nat) : Option (ByteArray × Nat × Nat) -> Option (ByteArray × Nat)
 | none => none
 | some (T, c, k) => if c <= 1024 then some (T, k - p) else none
def textM (l : List Nat) (p : Nat) : Option (ByteArray × Nat) := txFin p (txL l (p + 1) ⟨#[]⟩ 0)
def TxW (w wr : World) : Prop := TkBox w.heap.size wr /\ Below w.heap.size w wr
theorem TxW.on {w wr wx : World} (h : TxW w wr) (hb : Below wr.heap.size wr wx) : TxW w wx := ⟨h.1.on hb, Bt h.2 hb⟩
set_option maxHeartbeats 16000000 in
theorem rtext_any (s : ByteArray) (p : Nat) (w : World) (hs : s.size <= 5000) (hp : p < s.size) : Calls Tryz.prog 42 #[.string s, .int .i64 p] w (RTok w p ((textM (bs s) p).map (fun x => (13, 0, x.1, x.2)))) := by
 have hl := bs_length s
 have CE : Hid (∀ (j : Nat) wx, j < s.size -> Calls Tryz.prog 65 #[.string s, .int .i64 j] wx fun e w' => e = .returned (.tuple #[.int .i64 ((escV ((bs s).drop j)).1 : Nat), .int .i64 ((escV ((bs s).drop j)).2 : Nat)]) /\ Below wx.heap.size wx w') := fun j wx hj => resc_any s j wx hs hj
 have CR : Hid (∀ (j : Nat) wx, j < s.size -> Calls Tryz.prog 34 #[.string s, .int .i64 j] wx fun e w' => e = .returned (.tuple #[.int .i64 ((runeL ((bs s).drop j)).1 : Nat), .int .i64 ((runeL ((bs s).drop j)).2 : Nat)]) /\ Below wx.heap.size wx w') := fun j wx hj => by
  have h := rune_any s j wx hj (by omega)
  unfold RunePost at h
  rw [runeD_drop] at h
  exact h.mono fun e w' ⟨h1, q, h2⟩ => ⟨h1, by rw [h2]; exact Bd wx q⟩
 have HL := hid hl
 obtain ⟨X, hX⟩ : ∃ X, X = textM (bs s) p := ⟨_, rfl⟩
 rw [<- hX]
 obtain ⟨R, hR⟩ : ∃ R, R = txL (bs s) (p + 1) ⟨#[]⟩ 0 := ⟨_, rfl⟩
 have HX : Hid (X = txFin p R) := by unfold Hid; rw [hX, hR]; rfl
 have HR := hid hR
 have H0 : Hid (TxW w (w.alloc (.cells #[.int .i64 0, .int .i64 0, .string ⟨#[]⟩, .int .i64 0, .int .i64 0] 31))) := ⟨TkBox.new w, Ba w _⟩
 clear hl hX hR
 go_enter Tryz.func42, Tryz.ntmps42
 go_wp2_with fail
 go_loopw [6, 7, 8] (fun t m v wr => ∃ (T : ByteArray) (c i : Nat), t = .string T /\ m = .int .i64 c /\ v = .int .i64 i /\ p + 1 <= i /\ i <= s.size /\ c <= i /\ T.size <= 4 * i /\ Hid (R = txL (bs s) i T c) /\ Hid (TxW w wr)) (fun _ _ v _ => s.size - (intOf v).toNat)
 case atStart => exact ⟨⟨#[]⟩, 0, p + 1, rfl, rfl, by go_num, Nat.le_refl _, hp, Nat.zero_le _, Nat.zero_le _, HR.out, H0.out⟩
 case round =>
  obtain ⟨T, c, i, rfl, rfl, rfl, hi1, hi2, hc, hT, hI, hW⟩ := hrel
  clear HR H0
  by_cases hlt : i < s.size
  ·have g := txL_go (l := bs s) (k := i) (T := T) (c := c) (by rw [HL.out]; exact hlt)
   have hb := bs_get s i hlt
   rw [hb] at g
   have i0 : (0 : Int) <= (i : Int) := by omega
   have i1 : (i : Int) < (s.size : Int) := by omega
   by_cases h34 : (s[i]'hlt).toNat = 34
   ·have t1 : (((s[i]'hlt).toNat : Int) == 34) = true := by simp; omega
    have e0 : Hid (R = some (T, c, i + 1)) := by unfold Hid; rw [hI.out, g, if_pos h34]
    obtain ⟨⟨c0, c1, c2, c3, c4⟩, f0, f1, f2, f3, f4⟩ := hW.out.1.facts
    clear g hb h34 hI
    by_cases hcc : c <= 1024
    ·have cc : (c : Int) <= 1024 := by omega
     have hX1 : Hid (X = some (T, i + 1 - p)) := HX.out.trans (by rw [e0.out]; unfold txFin; exact if_pos hcc)
     go_wp2_with fail
     rw [hX1.out]
     exact bodyPost_ret (v := .tuple #[tkV 13 0 T p (i + 1), .bool true]) (by simp [results, Tryz.results42, go_sem, tkV, c0, c1, c2, c3, c4]) rfl (RTok.yes (by show ((i : Int) + 1) = ((p + (i + 1 - p) : Nat) : Int); omega) (below_set5 hW.out.2 (Nat.le_refl _) _ _ _ _ _))
    ·have cc : ¬ (c : Int) <= 1024 := by omega
     have hX1 : Hid (X = none) := HX.out.trans (by rw [e0.out]; unfold txFin; exact if_neg hcc)
     go_wp2_with fail
     rw [hX1.out]
     exact bodyPost_ret (v := .tuple #[tkV 13 0 T p (i + 1), .bool false]) (by simp [results, Tryz.results42, go_sem, tkV, c0, c1, c2, c3, c4]) rfl (RTok.no (below_set5 hW.out.2 (Nat.le_refl _) _ _ _ _ _))
   ·have t1 : (((s[i]'hlt).toNat : Int) == 34) = false := by simp; omega
    rw [if_neg h34] at g
    have C1 := hid (fun wx => CR.out i wx hlt)
    have C2 := hid (fun wx => CE.out i wx hlt)
    have hg : ((bs s).drop i).getD 0 0 = (s[i]'hlt).toNat := by rw [dropN_cons (by rw [HL.out]; exact hlt), <- hb]; rfl
    have hne : (bs s).drop i ≠ [] := by intro e; have := congrArg List.length e; rw [List.length_drop, HL.out] at this; simp at this; omega
    obtain ⟨it, hit⟩ : ∃ x, x = itemM ((bs s).drop i) := ⟨_, rfl⟩
    have hm1 := itemM_max ((bs s).drop i)
    have hm2 := itemM_le hne
    rw [<- hit] at g hm1 hm2
    rw [List.length_drop, HL.out] at hm2
    have HW := hid hW.out
    obtain ⟨rn, hrn⟩ : ∃ x, x = runeL ((bs s).drop i) := ⟨_, rfl⟩
    rw [<- hrn] at C1
    have hwr : IntKind.i32.wrap (it.1 : Int) = (it.1 : Int) := by rw [IntKind.wrap_i32]; omega
    have hes := encode_size_le (it.1 : Int)
    have hcat : ¬ 9223372036854775807 < T.size + (Utf8.encode (it.1 : Int)).size := by omega
    by_cases h92 : (s[i]'hlt).toNat = 92
    ·have t2 : (((s[i]'hlt).toNat : Int) == 92) = true := by simp; omega
     have e1 : it = escV ((bs s).drop i) := by rw [hit]; unfold itemM; rw [hg, if_pos h92]
     rw [<- e1] at C2
     clear hb h34 h92 hg hne hit hrn e1
     by_cases hz : it.2 = 0
     ·have t3 : ((it.2 : Int) == 0) = true := by simp; omega
      have hX1 : Hid (X = none) := HX.out.trans (by rw [hI.out, g, if_pos hz]; rfl)
      clear g hI hz
      go_wp2_with (go_at_call 34; with_reducible refine (C1.out _).mono ?_; rintro e wa ⟨rfl, ba⟩)
      go_at_call 65
      with_reducible refine (C2.out _).mono ?_
      rintro e wb ⟨rfl, bb⟩
      have HW2 : Hid (TxW w wb) := (HW.out.on ba).on bb
      obtain ⟨⟨c0, c1, c2, c3, c4⟩, f0, f1, f2, f3, f4⟩ := HW2.out.1.facts
      clear ba bb
      go_wp2_with fail
      rw [hX1.out]
      exact bodyPost_ret (v := .tuple #[tkV 0 0 ⟨#[]⟩ 0 0, .bool false]) (by simp [results, Tryz.results42, go_sem, tkV, c0, c1, c2, c3, c4]) rfl (RTok.no (below_set5 HW2.out.2 (Nat.le_refl _) _ _ _ _ _))
     ·have t3 : ((it.2 : Int) == 0) = false := by simp; omega
      have e2 : Hid (R = txL (bs s) (i + it.2) (T ++ Utf8.encode (it.1 : Nat)) (c + 1)) := by unfold Hid; rw [hI.out, g, if_neg hz]
      clear g hI
      go_wp2_with (first
       | (go_at_call 34; with_reducible refine (C1.out _).mono ?_; rintro e wa ⟨rfl, ba⟩)
       | (go_at_call 65; with_reducible refine (C2.out _).mono ?_; rintro e wb ⟨rfl, bb⟩; have HW2 := hid ((HW.out.on ba).on bb); clear ba bb))
      exact ⟨⟨_, c + 1, i + it.2, rfl, by go_num, by go_num, by omega, by omega, by omega, by rw [ByteArray.size_append]; omega, e2.out, HW2.out⟩, by simp [intOf]; omega⟩
    ·have t2 : (((s[i]'hlt).toNat : Int) == 92) = false := by simp; omega
     have e1 : it = runeL ((bs s).drop i) := by rw [hit]; unfold itemM; rw [hg, if_neg h92]
     obtain rfl : it = rn := by rw [e1, hrn]
     clear hb h34 h92 hg hne hit hrn e1
     by_cases hz : it.2 = 0
     ·have t3 : ((it.2 : Int) == 0) = true := by simp; omega
      have hX1 : Hid (X = none) := HX.out.trans (by rw [hI.out, g, if_pos hz]; rfl)
      clear g hI hz
      go_wp2_with fail
      go_at_call 34
      with_reducible refine (C1.out _).mono ?_
      rintro e wa ⟨rfl, ba⟩
      have HW2 : Hid (TxW w wa) := HW.out.on ba
      obtain ⟨⟨c0, c1, c2, c3, c4⟩, f0, f1, f2, f3, f4⟩ := HW2.out.1.facts
      clear ba
      go_wp2_with fail
      rw [hX1.out]
      exact bodyPost_ret (v := .tuple #[tkV 0 0 ⟨#[]⟩ 0 0, .bool false]) (by simp [results, Tryz.results42, go_sem, tkV, c0, c1, c2, c3, c4]) rfl (RTok.no (below_set5 HW2.out.2 (Nat.le_refl _) _ _ _ _ _))
     ·have t3 : ((it.2 : Int) == 0) = false := by simp; omega
      have e2 : Hid (R = txL (bs s) (i + it.2) (T ++ Utf8.encode (it.1 : Nat)) (c + 1)) := by unfold Hid; rw [hI.out, g, if_neg hz]
      clear g hI
      go_wp2_with (go_at_call 34; with_reducible refine (C1.out _).mono ?_; rintro e wa ⟨rfl, ba⟩; have HW2 := hid (HW.out.on ba); clear ba)
      exact ⟨⟨_, c + 1, i + it.2, rfl, by go_num, by go_num, by omega, by omega, by omega, by rw [ByteArray.size_append]; omega, e2.out, HW2.out⟩, by simp [intOf]; omega⟩
  ·have e0 : Hid (R = none) := by unfold Hid; rw [hI.out]; exact txL_end (by rw [HL.out]; exact hlt)
   obtain ⟨⟨c0, c1, c2, c3, c4⟩, f0, f1, f2, f3, f4⟩ := hW.out.1.facts
   clear hI
   have hX1 : Hid (X = none) := HX.out.trans (by rw [e0.out]; rfl)
   have i1 : ¬ (i : Int) < (s.size : Int) := by omega
   go_wp2_with fail
   rw [hX1.out]
   exact bodyPost_ret (v := .tuple #[tkV 0 0 ⟨#[]⟩ 0 0, .bool false]) (by simp [results, Tryz.results42, go_sem, tkV, c0, c1, c2, c3, c4]) rfl (RTok.no (below_set5 hW.out.2 (Nat.le_refl _) _ _ _ _ _))
end Go.Proofs.YtbkfinjajkjhaaaGreatDoor
