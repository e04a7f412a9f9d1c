import Derived.Test.YtbkfinjajkjhaaaGreatDoorLM1
set_option linter.unusedVariables false
set_option linter.unusedSimpArgs false
set_option maxRecDepth 100000
namespace Go.Proofs.YtbkfinjajkjhaaaGreatDoor
open Go.RowKit
theorem natBeq (a b : Nat) : ((a : Int) == (b : Int)) = (a == b) := by
 rw [Bool.eq_iff_iff, beq_iff_eq, beq_iff_eq]; omega
theorem rblank_any (c : Nat) (hc : c < 256) (w : World) : Calls Tryz.prog 39 #[.int .u8 c] w fun e w' => e = .returned (.bool (blkB c)) /\ w' = w := by
 by_cases h : c = 32 \/ c = 9 \/ c = 10 \/ c = 13
 ·have e : blkB c = true := by unfold blkB; rcases h with h | h | h | h <;> subst h <;> rfl
  rw [e]
  clear e
  rcases h with h | h | h | h <;> subst h
  all_goals
   go_enter Tryz.func39, Tryz.ntmps39
   go_wp2
   go_ret
   exact ⟨rfl, rfl⟩
 ·have e : blkB c = false := by unfold blkB; simp; omega
  rw [e]
  have e1 : ((c : Int) == 32) = false := by simp; omega
  have e2 : ((c : Int) == 9) = false := by simp; omega
  have e3 : ((c : Int) == 10) = false := by simp; omega
  have e4 : ((c : Int) == 13) = false := by simp; omega
  clear e h
  go_enter Tryz.func39, Tryz.ntmps39
  go_wp2
  go_ret
  exact ⟨rfl, rfl⟩
def dlmA (l : List Nat) (k : Nat) : Bool := decide (l.length <= k) || dlmB (l.getD k 0)
set_option maxHeartbeats 4000000 in
theorem rdelim_any (s : ByteArray) (k : Nat) (w : World) (hs : s.size <= 1000000) : Calls Tryz.prog 92 #[.string s, .int .i64 k] w fun e w' => e = .returned (.bool (dlmA (bs s) k)) /\ w' = w := by
 have hl := bs_length s
 by_cases h : k < s.size
 ·have hb := bs_get s k h
  have hc : (s[k]'h).toNat < 256 := UInt8.toNat_lt _
  have e0 : dlmA (bs s) k = dlmB (s[k]'h).toNat := by unfold dlmA; rw [hb, hl, decide_eq_false (by omega)]; rfl
  rw [e0]
  have CB := hid (fun wx => rblank_any (s[k]'h).toNat hc wx)
  have k0 : (0 : Int) <= (k : Int) := by omega
  have k1 : (k : Int) < (s.size : Int) := by omega
  clear hl e0 hb
  have kd : decide (s.size <= k) = false := by simp; omega
  have e1 : dlmB (s[k]'h).toNat = (blkB (s[k]'h).toNat || ((((s[k]'h).toNat : Int) == 40) || ((((s[k]'h).toNat : Int) == 41) || ((((s[k]'h).toNat : Int) == 34) || (((s[k]'h).toNat : Int) == 59))))) := by
   unfold dlmB
   rw [<- natBeq _ 40, <- natBeq _ 41, <- natBeq _ 34, <- natBeq _ 59]
   rfl
  rw [e1]
  clear e1
  obtain ⟨bb, hbb⟩ : ∃ b, b = blkB (s[k]'h).toNat := ⟨_, rfl⟩
  rw [<- hbb] at CB ⊢
  clear hbb
  obtain ⟨b1, t1⟩ : ∃ b, (((s[k]'h).toNat : Int) == 40) = b := ⟨_, rfl⟩
  obtain ⟨b2, t2⟩ : ∃ b, (((s[k]'h).toNat : Int) == 41) = b := ⟨_, rfl⟩
  obtain ⟨b3, t3⟩ : ∃ b, (((s[k]'h).toNat : Int) == 34) = b := ⟨_, rfl⟩
  obtain ⟨b4, t4⟩ : ∃ b, (((s[k]'h).toNat : Int) == 59) = b := ⟨_, rfl⟩
  rw [t1, t2, t3, t4]
  cases bb
  ·cases b1
   ·cases b2
    ·cases b3
     ·cases b4
      all_goals
       go_enter Tryz.func92, Tryz.ntmps92
       go_wp2_with (go_at_call 39; with_reducible refine (CB.out _).mono ?_; rintro e wa ⟨rfl, rfl⟩)
       go_ret
       exact ⟨rfl, rfl⟩
     ·go_enter Tryz.func92, Tryz.ntmps92
      go_wp2_with (go_at_call 39; with_reducible refine (CB.out _).mono ?_; rintro e wa ⟨rfl, rfl⟩)
      go_ret
      exact ⟨rfl, rfl⟩
    ·go_enter Tryz.func92, Tryz.ntmps92
     go_wp2_with (go_at_call 39; with_reducible refine (CB.out _).mono ?_; rintro e wa ⟨rfl, rfl⟩)
     go_ret
     exact ⟨rfl, rfl⟩
   ·go_enter Tryz.func92, Tryz.ntmps92
    go_wp2_with (go_at_call 39; with_reducible refine (CB.out _).mono ?_; rintro e wa ⟨rfl, rfl⟩)
    go_ret
    exact ⟨rfl, rfl⟩
  ·go_enter Tryz.func92, Tryz.ntmps92
   go_wp2_with (go_at_call 39; with_reducible refine (CB.out _).mono ?_; rintro e wa ⟨rfl, rfl⟩)
   go_ret
   exact ⟨rfl, rfl⟩
 ·have e0 : dlmA (bs s) k = true := by unfold dlmA; rw [hl, decide_eq_true (by omega)]; rfl
  rw [e0]
  have k1 : (s.size : Int) <= (k : Int) := by omega
  clear e0 hl
  go_enter Tryz.func92, Tryz.ntmps92
  go_wp2_with fail
  go_ret
  exact ⟨rfl, rfl⟩
theorem wordN_dlm {l : List Nat} {k : Nat} (h : dlmA l k = true) : wordN (l.drop k) = 0 := by
 unfold dlmA at h
 by_cases hk : k < l.length
 ·rw [decide_eq_false (by omega), Bool.false_or] at h; exact wordN_stop hk h
 ·exact wordN_end hk
theorem wordN_dlm' {l : List Nat} {k : Nat} (h : dlmA l k = false) : k < l.length /\ wordN (l.drop k) = wordN (l.drop (k + 1)) + 1 := by
 unfold dlmA at h
 rw [Bool.or_eq_false_iff] at h
 have hk : k < l.length := by have := of_decide_eq_false h.1; omega
 exact ⟨hk, wordN_go hk h.2⟩
set_option maxHeartbeats 4000000 in
theorem rword_any (s : ByteArray) (k : Nat) (w : World) (hs : s.size <= 1000000) (hk : k <= s.size) : Calls Tryz.prog 68 #[.string s, .int .i64 k] w fun e w' => e = .returned (.int .i64 ((k + wordN ((bs s).drop k) : Nat) : Int)) /\ w' = w := by
 have CD : Hid (∀ (j : Nat) wx, Calls Tryz.prog 92 #[.string s, .int .i64 j] wx fun e w' => e = .returned (.bool (dlmA (bs s) j)) /\ w' = wx) := fun j wx => rdelim_any s j wx hs
 have hl := bs_length s
 obtain ⟨R, hR⟩ : ∃ R, R = k + wordN ((bs s).drop k) := ⟨_, rfl⟩
 rw [<- hR]
 have HR := hid hR
 have HLl := hid hl
 clear hR hl
 go_enter Tryz.func68, Tryz.ntmps68
 go_wp2_with fail
 go_loop [1] (fun v => ∃ j : Nat, v = .int .i64 j /\ j <= s.size /\ Hid (R = j + wordN ((bs s).drop j))) (fun v => s.size - (intOf v).toNat)
 case atStart => exact ⟨k, rfl, hk, HR.out⟩
 case round =>
  obtain ⟨j, rfl, hj, hI⟩ := hrel
  have C9 := hid (CD.out j)
  obtain ⟨b, hb⟩ : ∃ b, b = dlmA (bs s) j := ⟨_, rfl⟩
  rw [<- hb] at C9
  cases b
  ·obtain ⟨h1, h2⟩ := wordN_dlm' hb.symm
   have H1 : Hid (R = (j + 1) + wordN ((bs s).drop (j + 1))) := by unfold Hid; rw [hI.out, h2]; omega
   have h3 : j < s.size := by have := HLl.out; omega
   clear hb h1 h2
   go_wp2_with (go_at_call 92; with_reducible refine (C9.out _).mono ?_; rintro e wa ⟨rfl, rfl⟩)
   go_round
   case rel => exact ⟨j + 1, by go_num, by omega, H1.out⟩
   case measure => simp [intOf]; omega
  ·have H1 : Hid (R = j) := by unfold Hid; rw [hI.out, wordN_dlm hb.symm]; omega
   clear hb
   go_wp2_with (go_at_call 92; with_reducible refine (C9.out _).mono ?_; rintro e wa ⟨rfl, rfl⟩)
   go_ret
   exact ⟨by rw [H1.out]; rfl, rfl⟩
theorem bs_ext_at (s : ByteArray) (a b : Nat) : bs (s.extract a b) = ((bs s).drop a).take (b - a) := by
 unfold bs
 rw [ByteArray.data_extract, Array.toList_extract, List.extract_eq_take_drop, List.map_take, List.map_drop]
theorem bsBeq (s t : ByteArray) : (s.toList == t.toList) = decide (bs s = bs t) := by
 rw [Lib.toList_data, Lib.toList_data]
 unfold bs
 rw [Bool.eq_iff_iff]
 simp only [beq_iff_eq, decide_eq_true_eq]
 constructor
 ·rintro h; rw [h]
 ·intro h
  exact (List.map_inj_right (fun a b hab => UInt8.toNat_inj.1 hab)).1 h
set_option maxHeartbeats 4000000 in
theorem rhas_any (s t : ByteArray) (k : Nat) (w : World) (hs : s.size <= 1000000) (ht : t.size <= 100) (hk : k <= s.size) : Calls Tryz.prog 40 #[.string s, .int .i64 k, .string t] w fun e w' => e = .returned (.bool (hasB ((bs s).drop k) (bs t))) /\ w' = w := by
 have hl := bs_length s
 have hlt := bs_length t
 by_cases h : k + t.size <= s.size
 ·have h1 : (k : Int) + (t.size : Int) <= (s.size : Int) := by omega
  have kd : decide (k + t.size <= s.size) = true := by simp; omega
  have HV : Hid (((s.extract k (k + t.size)).toList == t.toList) = hasB ((bs s).drop k) (bs t)) := by
   unfold Hid hasB
   rw [bsBeq, bs_ext_at, hlt]
   congr 3
   omega
  obtain ⟨b, hb⟩ : ∃ b, b = hasB ((bs s).drop k) (bs t) := ⟨_, rfl⟩
  rw [<- hb] at HV ⊢
  clear hb hl hlt
  go_enter Tryz.func40, Tryz.ntmps40
  go_wp2_with fail
  go_ret
  exact ⟨congrArg (fun x => Ending.returned (.bool x)) HV.out, rfl⟩
 ·have e0 : hasB ((bs s).drop k) (bs t) = false := by
   cases e : hasB ((bs s).drop k) (bs t)
   ·rfl
   ·have := hasB_len e; rw [List.length_drop, hl, hlt] at this; omega
  rw [e0]
  have h1 : (s.size : Int) < (k : Int) + (t.size : Int) := by omega
  have kd : decide (k + t.size <= s.size) = false := by simp; omega
  clear e0 hl hlt
  go_enter Tryz.func40, Tryz.ntmps40
  go_wp2_with fail
  go_ret
  exact ⟨rfl, rfl⟩
def plI : Option Nat -> Int
 | none => -1
 | some e => e
set_option maxHeartbeats 8000000 in
theorem rremark_any (s : ByteArray) (k : Nat) (w : World) (hs : s.size <= 1000000) (hk : k <= s.size) (h0 : hasB ((bs s).drop k) [35, 124] = true) : Calls Tryz.prog 41 #[.string s, .int .i64 k] w fun e w' => e = .returned (.int .i64 (plI (remL (bs s) k 0))) /\ w' = w := by
 have CH : Hid (∀ (j : Nat) wx, j <= s.size -> Calls Tryz.prog 40 #[.string s, .int .i64 j, .string ⟨#[35, 124]⟩] wx fun e w' => e = .returned (.bool (hasB ((bs s).drop j) [35, 124])) /\ w' = wx) := fun j wx hj => rhas_any s ⟨#[35, 124]⟩ j wx hs (by decide) hj
 have CG : Hid (∀ (j : Nat) wx, j <= s.size -> Calls Tryz.prog 40 #[.string s, .int .i64 j, .string ⟨#[124, 35]⟩] wx fun e w' => e = .returned (.bool (hasB ((bs s).drop j) [124, 35])) /\ w' = wx) := fun j wx hj => rhas_any s ⟨#[124, 35]⟩ j wx hs (by decide) hj
 have hl := bs_length s
 have HL := hid hl
 have H0 := hid h0
 obtain ⟨R, hR⟩ : ∃ R, R = remL (bs s) k 0 := ⟨_, rfl⟩
 rw [<- hR]
 have HR := hid hR
 clear hR hl h0
 go_enter Tryz.func41, Tryz.ntmps41
 go_wp2_with fail
 go_loop [1, 5] (fun v u => ∃ j d : Nat, v = .int .i64 j /\ u = .int .i64 d /\ j <= s.size /\ d <= j /\ Hid (R = remL (bs s) j d) /\ Hid (1 <= d \/ hasB ((bs s).drop j) [35, 124] = true)) (fun v _ => s.size - (intOf v).toNat)
 case atStart => exact ⟨k, 0, rfl, rfl, hk, Nat.zero_le _, HR.out, .inr H0.out⟩
 case round =>
  obtain ⟨j, d, rfl, rfl, hj, hd, hI, hD⟩ := hrel
  clear HR H0
  by_cases hlt : j < s.size
  ·have g := remL_go (l := bs s) (k := j) (d := d) (by rw [HL.out]; exact hlt)
   have C1 := hid (fun wx => CH.out j wx hj)
   have C2 := hid (fun wx => CG.out j wx hj)
   obtain ⟨b1, hb1⟩ : ∃ b, b = hasB ((bs s).drop j) [35, 124] := ⟨_, rfl⟩
   obtain ⟨b2, hb2⟩ : ∃ b, b = hasB ((bs s).drop j) [124, 35] := ⟨_, rfl⟩
   have hz1 : b1 = true -> j + 2 <= s.size := fun e => by
    have := hasB_len (hb1.symm.trans e); rw [List.length_drop, HL.out] at this; simp at this; omega
   have hz2 : b2 = true -> j + 2 <= s.size := fun e => by
    have := hasB_len (hb2.symm.trans e); rw [List.length_drop, HL.out] at this; simp at this; omega
   rw [<- hb1] at C1 g hD
   rw [<- hb2] at C2 g
   clear hb1 hb2
   cases b1
   ·have hd1 : 1 <= d := by
     rcases hD.out with h | h
     ·exact h
     ·cases h
    clear hD
    cases b2
    ·have g' : Hid (R = remL (bs s) (j + 1) d) := by unfold Hid; rw [hI.out, g]; rfl
     have dz : ((d : Int) == 0) = false := by simp; omega
     clear g hz1 hz2 hI
     go_wp2_with (first
      | (go_at_call 40; with_reducible refine (C1.out _).mono ?_; rintro e wa ⟨rfl, rfl⟩)
      | (go_at_call 40; with_reducible refine (C2.out _).mono ?_; rintro e wa ⟨rfl, rfl⟩))
     go_round
     case rel => exact ⟨j + 1, d, by go_num, rfl, by omega, by omega, g'.out, .inl hd1⟩
     case measure => simp [intOf]; omega
    ·have hz := hz2 rfl
     by_cases e1 : d = 1
     ·have g' : Hid (R = some (j + 2)) := by unfold Hid; rw [hI.out, g]; simp [e1]
      subst e1
      clear g hz1 hz2 hI
      go_wp2_with (first
       | (go_at_call 40; with_reducible refine (C1.out _).mono ?_; rintro e wa ⟨rfl, rfl⟩)
       | (go_at_call 40; with_reducible refine (C2.out _).mono ?_; rintro e wa ⟨rfl, rfl⟩))
      go_ret
      exact ⟨by rw [g'.out]; rfl, rfl⟩
     ·have g' : Hid (R = remL (bs s) (j + 2) (d - 1)) := by unfold Hid; rw [hI.out, g]; simp [e1]
      have dz : (((d : Int) - 1) == 0) = false := by simp; omega
      have dz' : ¬ ((d : Int) - 1 = 0) := by omega
      clear g hz1 hz2 hI
      go_wp2_with (first
       | (go_at_call 40; with_reducible refine (C1.out _).mono ?_; rintro e wa ⟨rfl, rfl⟩)
       | (go_at_call 40; with_reducible refine (C2.out _).mono ?_; rintro e wa ⟨rfl, rfl⟩))
      go_round
      case rel => exact ⟨j + 2, d - 1, by go_num, by congr 1; omega, by omega, by omega, g'.out, .inl (by omega)⟩
      case measure => simp [intOf]; omega
   ·have hz := hz1 rfl
    have g' : Hid (R = remL (bs s) (j + 2) (d + 1)) := by unfold Hid; rw [hI.out, g]; rfl
    have dz : (((d : Int) + 1) == 0) = false := by simp; omega
    have dz' : ¬ ((d : Int) + 1 = 0) := by omega
    clear g hz1 hz2 hI hD
    go_wp2_with (first
     | (go_at_call 40; with_reducible refine (C1.out _).mono ?_; rintro e wa ⟨rfl, rfl⟩)
     | (go_at_call 40; with_reducible refine (C2.out _).mono ?_; rintro e wa ⟨rfl, rfl⟩))
    go_round
    case rel => exact ⟨j + 2, d + 1, by go_num, by go_num, by omega, by omega, g'.out, .inl (by omega)⟩
    case measure => simp [intOf]; omega
  ·have g' : Hid (R = none) := by unfold Hid; rw [hI.out]; exact remL_end (by rw [HL.out]; exact hlt)
   clear hI hD
   go_wp2_with fail
   go_ret
   exact ⟨by rw [g'.out]; rfl, rfl⟩
theorem lineN_pos {r : List Nat} (h : r ≠ []) (h0 : r.getD 0 0 = 59) : 1 <= lineN r := by
 cases r with
 | nil => exact absurd rfl h
 | cons c r => simp at h0; subst h0; simp [lineN]
theorem remA_pos : ∀ (n : Nat) (r : List Nat) (d k e : Nat), remA n r d k = some e -> k + 2 <= e /\ e <= k + r.length
 | 0, _, _, _, _, h => by cases h
 | n + 1, r, d, k, e, h => by
  unfold remA at h
  split at h
  ·cases h
  ·rename_i hr
   have hl : 0 < r.length := List.length_pos_iff.2 hr
   split at h
   ·rename_i hh
    have h1 := hasB_len hh
    have := remA_pos n _ _ _ _ h
    rw [List.length_drop] at this
    simp at h1
    omega
   ·split at h
    ·rename_i hh
     have h1 := hasB_len hh
     simp at h1
     split at h
     ·cases h; omega
     ·have := remA_pos n _ _ _ _ h
      rw [List.length_drop] at this
      omega
    ·have := remA_pos n _ _ _ _ h
     rw [List.length_drop] at this
     omega
theorem remN_pos {r : List Nat} {e : Nat} (h : remN r = some e) : 2 <= e /\ e <= r.length := by
 have := remA_pos _ _ _ _ _ h; omega
theorem skA_fuel : ∀ (n m : Nat) (r : List Nat) (k : Nat), r.length <= n -> r.length <= m -> skA n r k = skA m r k
 | 0, 0, _, _, _, _ => rfl
 | 0, m + 1, r, k, h, _ => by
  have : r = [] := List.length_eq_zero_iff.1 (by omega)
  unfold skA; rw [if_pos this]
 | n + 1, 0, r, k, _, h => by
  have : r = [] := List.length_eq_zero_iff.1 (by omega)
  unfold skA; rw [if_pos this]
 | n + 1, m + 1, r, k, h, h' => by
  by_cases e : r = []
  ·unfold skA; rw [if_pos e, if_pos e]
  ·have hl : 0 < r.length := List.length_pos_iff.2 e
   unfold skA
   rw [if_neg e, if_neg e, skA_fuel n m (r.drop 1) (k + 1) (by rw [List.length_drop]; omega) (by rw [List.length_drop]; omega)]
   by_cases e1 : r.getD 0 0 = 59
   ·have := lineN_pos e e1
    rw [skA_fuel n m (r.drop (lineN r)) (k + lineN r) (by rw [List.length_drop]; omega) (by rw [List.length_drop]; omega)]
    simp only [if_pos e1]
   ·simp only [if_neg e1]
    cases hr : remN r with
    | none => rfl
    | some q =>
     have := remN_pos hr
     simp only
     rw [skA_fuel n m (r.drop q) (k + q) (by rw [List.length_drop]; omega) (by rw [List.length_drop]; omega)]
def skL (l : List Nat) (k : Nat) : Nat × Bool := skA (l.length - k) (l.drop k) k
theorem skL_end {l : List Nat} {k : Nat} (h : ¬ k < l.length) : skL l k = (k, true) := by
 unfold skL; rw [show l.length - k = 0 by omega]; rfl
theorem skL_go {l : List Nat} {k : Nat} (h : k < l.length) : skL l k = if blkB (l.getD k 0) then skL l (k + 1) else if l.getD k 0 = 59 then skL l (k + lineN (l.drop k)) else if hasB (l.drop k) [35, 124] then (match remL l k 0 with | none => (k, false) | some e => skL l e) else (k, true) := by
 unfold skL
 obtain ⟨m, hm⟩ : ∃ m, l.length - k = m + 1 := ⟨l.length - k - 1, by omega⟩
 have e : l.drop k ≠ [] := by intro e; have := congrArg List.length e; rw [List.length_drop] at this; simp at this; omega
 have hg : (l.drop k).getD 0 0 = l.getD k 0 := by rw [dropN_cons h]; rfl
 rw [hm]
 conv => lhs; unfold skA
 rw [if_neg e, hg, List.drop_drop, List.drop_drop, skA_fuel m (l.length - (k + 1)) _ (k + 1) (by rw [List.length_drop]; omega) (by rw [List.length_drop]; omega)]
 by_cases e1 : l.getD k 0 = 59
 ·have := lineN_pos e (by rw [hg]; exact e1)
  rw [skA_fuel m (l.length - (k + lineN (l.drop k))) _ (k + lineN (l.drop k)) (by rw [List.length_drop]; omega) (by rw [List.length_drop]; omega)]
  simp only [if_pos e1]
 ·simp only [if_neg e1]
  rw [remL_remN (by omega)]
  cases hr : remN (l.drop k) with
  | none => rfl
  | some q =>
   have := remN_pos hr
   rw [List.length_drop] at this
   simp only [Option.map_some]
   rw [List.drop_drop, skA_fuel m (l.length - (q + k)) _ (k + q) (by rw [List.length_drop]; omega) (by rw [List.length_drop]; omega), Nat.add_comm k q]
theorem remL_le {l : List Nat} {k d e : Nat} (hk : k <= l.length) (h : remL l k d = some e) : k + 2 <= e /\ e <= l.length := by
 have := remA_pos _ _ _ _ _ h
 rw [List.length_drop] at this
 omega
def tupIB (n : Nat) (b : Bool) : Value := .tuple #[.int .i64 n, .bool b]
set_option maxHeartbeats 8000000 in
theorem rskip_any (s : ByteArray) (k : Nat) (w : World) (hs : s.size <= 1000000) (hk : k <= s.size) : Calls Tryz.prog 23 #[.string s, .int .i64 k] w fun e w' => e = .returned (tupIB (skL (bs s) k).1 (skL (bs s) k).2) /\ w' = w := by
 have CH : Hid (∀ (j : Nat) wx, j <= s.size -> Calls Tryz.prog 40 #[.string s, .int .i64 j, .string ⟨#[35, 124]⟩] wx fun e w' => e = .returned (.bool (hasB ((bs s).drop j) [35, 124])) /\ w' = wx) := fun j wx hj => rhas_any s ⟨#[35, 124]⟩ j wx hs (by decide) hj
 have CB : Hid (∀ (j : Nat) (h : j < s.size) wx, Calls Tryz.prog 39 #[.int .u8 ((s[j]'h).toNat : Nat)] wx fun e w' => e = .returned (.bool (blkB (s[j]'h).toNat)) /\ w' = wx) := fun j h wx => rblank_any _ (UInt8.toNat_lt _) wx
 have CR : Hid (∀ (j : Nat) wx, j <= s.size -> hasB ((bs s).drop j) [35, 124] = true -> Calls Tryz.prog 41 #[.string s, .int .i64 j] wx fun e w' => e = .returned (.int .i64 (plI (remL (bs s) j 0))) /\ w' = wx) := fun j wx hj h => rremark_any s j wx hs hj h
 have hl := bs_length s
 have HL := hid hl
 obtain ⟨R, hR⟩ : ∃ R, R = skL (bs s) k := ⟨_, rfl⟩
 rw [<- hR]
 have HR := hid hR
 clear hR hl
 go_enter Tryz.func23, Tryz.ntmps23
 go_wp2_with fail
 go_loop [1] (fun v => ∃ j : Nat, v = .int .i64 j /\ j <= s.size /\ Hid (R = skL (bs s) j)) (fun v => s.size - (intOf v).toNat)
 case atStart => exact ⟨k, rfl, hk, HR.out⟩
 case round =>
  obtain ⟨j, rfl, hj, hI⟩ := hrel
  clear HR
  by_cases hlt : j < s.size
  ·have g := skL_go (l := bs s) (k := j) (by rw [HL.out]; exact hlt)
   have C1 := hid (fun wx => CH.out j wx hj)
   have C2 := hid (CB.out j hlt)
   have C3 := hid (fun wx => CR.out j wx hj)
   have hb := bs_get s j hlt
   have j0 : (0 : Int) <= (j : Int) := by omega
   have j1 : (j : Int) < (s.size : Int) := by omega
   obtain ⟨b1, hb1⟩ : ∃ b, b = blkB (s[j]'hlt).toNat := ⟨_, rfl⟩
   rw [hb] at g
   rw [<- hb1] at C2 g
   cases b1
   ·by_cases h59 : (s[j]'hlt).toNat = 59
    ·have t1 : (((s[j]'hlt).toNat : Int) == 59) = true := by simp; omega
     have g' : Hid (R = skL (bs s) (j + lineN ((bs s).drop j))) := by unfold Hid; rw [hI.out, g]; simp [h59]
     have hp : Hid (1 <= lineN ((bs s).drop j)) := lineN_pos (by intro e; have := congrArg List.length e; rw [List.length_drop, HL.out] at this; simp at this; omega) (by rw [dropN_cons (by rw [HL.out]; exact hlt)]; show (bs s).getD j 0 = 59; rw [hb]; exact h59)
     obtain ⟨E, hE⟩ : ∃ E, E = j + lineN ((bs s).drop j) := ⟨_, rfl⟩
     rw [<- hE] at g'
     have HE := hid hE
     clear g hI hb hb1 h59 hE
     go_wp2_with (go_at_call 39; with_reducible refine (C2.out _).mono ?_; rintro e wa ⟨rfl, rfl⟩)
     clear t1
     go_loop [1] (fun v => ∃ i : Nat, v = .int .i64 i /\ i <= s.size /\ j <= i /\ Hid (E = i + lineN ((bs s).drop i))) (fun v => s.size - (intOf v).toNat)
     case atStart => exact ⟨j, rfl, hj, Nat.le_refl _, HE.out⟩
     case round =>
      obtain ⟨i, rfl, hi, hji, hI⟩ := hrel
      by_cases hli : i < s.size
      ·have i0 : (0 : Int) <= (i : Int) := by omega
       have i1 : (i : Int) < (s.size : Int) := by omega
       have hbi := bs_get s i hli
       by_cases h10 : (s[i]'hli).toNat = 10
       ·have t2 : (((s[i]'hli).toNat : Int) != 10) = false := by simp; omega
        have e2 : Hid (E = i) := by unfold Hid; rw [hI.out, lineN_stop (by rw [HL.out]; exact hli) (by rw [hbi]; exact h10)]; rfl
        have hji' : j < i := by have := e2.out; have := HE.out; have := hp.out; omega
        clear h10 hbi hI
        go_wp2_with fail
        go_round
        case rel => exact ⟨i, rfl, hi, by rw [<- e2.out]; exact g'.out⟩
        case measure => simp [intOf]; omega
       ·have t2 : (((s[i]'hli).toNat : Int) != 10) = true := by simp; omega
        have e2 : Hid (E = (i + 1) + lineN ((bs s).drop (i + 1))) := by unfold Hid; rw [hI.out, lineN_go (by rw [HL.out]; exact hli) (by rw [hbi]; exact h10)]; omega
        clear h10 hbi hI
        go_wp2_with fail
        go_round
        case rel => exact ⟨i + 1, by go_num, by omega, by omega, e2.out⟩
        case measure => simp [intOf]; omega
      ·have e2 : Hid (E = i) := by unfold Hid; rw [hI.out, lineN_end (by rw [HL.out]; exact hli)]; rfl
       have hji' : j < i := by have := e2.out; have := HE.out; have := hp.out; omega
       clear hI
       go_wp2_with fail
       go_round
       case rel => exact ⟨i, rfl, hi, by rw [<- e2.out]; exact g'.out⟩
       case measure => simp [intOf]; omega
    ·have t1 : (((s[j]'hlt).toNat : Int) == 59) = false := by simp; omega
     obtain ⟨b2, hb2⟩ : ∃ b, b = hasB ((bs s).drop j) [35, 124] := ⟨_, rfl⟩
     rw [<- hb2] at C1 g C3
     simp only [if_neg h59] at g
     cases b2
     ·have g' : Hid (R = (j, true)) := by unfold Hid; rw [hI.out, g]; rfl
      clear g hI hb hb1 h59 hb2
      go_wp2_with (first
       | (go_at_call 39; with_reducible refine (C2.out _).mono ?_; rintro e wa ⟨rfl, rfl⟩)
       | (go_at_call 40; with_reducible refine (C1.out _).mono ?_; rintro e wa ⟨rfl, rfl⟩))
      go_ret2
      exact ⟨by rw [g'.out]; rfl, rfl⟩
     ·have C4 := hid (fun wx => C3.out wx rfl)
      cases hr : remL (bs s) j 0 with
      | none =>
       have g' : Hid (R = (j, false)) := by unfold Hid; rw [hI.out, g, hr]; rfl
       rw [hr] at C4
       unfold plI at C4
       clear g hI hb hb1 h59 hb2 hr C3
       go_wp2_with (first
        | (go_at_call 39; with_reducible refine (C2.out _).mono ?_; rintro e wa ⟨rfl, rfl⟩)
        | (go_at_call 40; with_reducible refine (C1.out _).mono ?_; rintro e wa ⟨rfl, rfl⟩)
        | (go_at_call 41; with_reducible refine (C4.out _).mono ?_; rintro e wa ⟨rfl, rfl⟩))
       go_ret2
       exact ⟨by rw [g'.out]; rfl, rfl⟩
      | some q =>
       have g' : Hid (R = skL (bs s) q) := by unfold Hid; rw [hI.out, g, hr]; rfl
       have hq := remL_le (by rw [HL.out]; exact hj) hr
       rw [HL.out] at hq
       obtain ⟨hq1, hq2⟩ := hq
       rw [hr] at C4
       unfold plI at C4
       have q0 : ¬ ((q : Int) < 0) := by omega
       clear g hI hb hb1 h59 hb2 hr C3
       go_wp2_with (first
        | (go_at_call 39; with_reducible refine (C2.out _).mono ?_; rintro e wa ⟨rfl, rfl⟩)
        | (go_at_call 40; with_reducible refine (C1.out _).mono ?_; rintro e wa ⟨rfl, rfl⟩)
        | (go_at_call 41; with_reducible refine (C4.out _).mono ?_; rintro e wa ⟨rfl, rfl⟩))
       go_round
       case rel => exact ⟨q, rfl, hq2, g'.out⟩
       case measure => simp [intOf]; omega
   ·have g' : Hid (R = skL (bs s) (j + 1)) := by unfold Hid; rw [hI.out, g]; rfl
    clear g hI hb hb1
    go_wp2_with (go_at_call 39; with_reducible refine (C2.out _).mono ?_; rintro e wa ⟨rfl, rfl⟩)
    go_round
    case rel => exact ⟨j + 1, by go_num, by omega, g'.out⟩
    case measure => simp [intOf]; omega
  ·have g' : Hid (R = (j, true)) := by unfold Hid; rw [hI.out]; exact skL_end (by rw [HL.out]; exact hlt)
   clear hI
   go_wp2_with fail
   go_ret2
   exact ⟨by rw [g'.out]; rfl, rfl⟩
end Go.Proofs.YtbkfinjajkjhaaaGreatDoor
