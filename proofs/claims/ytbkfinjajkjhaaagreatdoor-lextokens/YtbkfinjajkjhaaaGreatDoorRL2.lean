import Derived.Test.YtbkfinjajkjhaaaGreatDoorW14
set_option linter.unusedVariables false
set_option linter.unusedSimpArgs false
namespace Go.Proofs.YtbkfinjajkjhaaaGreatDoor
def blkB (c : Nat) : Bool := c == 32 || c == 9 || c == 10 || c == 13
def dlmB (c : Nat) : Bool := blkB c || (c == 40 || (c == 41 || (c == 34 || c == 59)))
def zd : List Nat -> Nat
 | [] => 0
 | c :: r => if dlmB c then 0 else zd r + 1
def zo : List Nat -> Nat
 | [] => 0
 | c :: r => if c = 10 then 0 else zo r + 1
def hasB (r t : List Nat) : Bool := decide (r.take t.length = t)
def remA : Nat -> List Nat -> Nat -> Nat -> Option Nat
 | 0, _, _, _ => none
 | n + 1, r, d, k => if r = [] then none
  else if hasB r [35, 124] then remA n (r.drop 2) (d + 1) (k + 2)
  else if hasB r [124, 35] then (if d = 1 then some (k + 2) else remA n (r.drop 2) (d - 1) (k + 2))
  else remA n (r.drop 1) d (k + 1)
def remN (r : List Nat) : Option Nat := remA r.length r 0 0
def skA : Nat -> List Nat -> Nat -> Nat × Bool
 | 0, _, k => (k, true)
 | n + 1, r, k => if r = [] then (k, true)
  else if blkB (r.getD 0 0) then skA n (r.drop 1) (k + 1)
  else if r.getD 0 0 = 59 then skA n (r.drop (zo r)) (k + zo r)
  else if hasB r [35, 124] then (match remN r with | none => (k, false) | some e => skA n (r.drop e) (k + e))
  else (k, true)
theorem zf {l : List Nat} {k : Nat} (h : k < l.length) : l.drop k = l.getD k 0 :: l.drop (k + 1) := by
 rw [List.drop_eq_getElem_cons h, List.getD_eq_getElem?_getD, List.getElem?_eq_getElem h]; rfl
theorem zt : ∀ r : List Nat, zd r <= r.length
 | [] => by simp [zd]
 | c :: r => by unfold zd; split <;> simp; exact zt r
theorem zel {l : List Nat} {k : Nat} (h : ¬ k < l.length) : zd (l.drop k) = 0 := by
 rw [List.drop_eq_nil_of_le (by omega)]; rfl
theorem xq {l : List Nat} {k : Nat} (h : k < l.length) (hd : dlmB (l.getD k 0) = true) : zd (l.drop k) = 0 := by
 rw [zf h]; unfold zd; rw [if_pos hd]
theorem gl {l : List Nat} {k : Nat} (h : k < l.length) (hd : dlmB (l.getD k 0) = false) : zd (l.drop k) = zd (l.drop (k + 1)) + 1 := by
 rw [zf h]; conv => lhs; unfold zd
 rw [if_neg (by rw [hd]; simp)]
theorem j7 : ∀ r : List Nat, zo r <= r.length
 | [] => by simp [zo]
 | c :: r => by unfold zo; split <;> simp; exact j7 r
theorem zem {l : List Nat} {k : Nat} (h : ¬ k < l.length) : zo (l.drop k) = 0 := by
 rw [List.drop_eq_nil_of_le (by omega)]; rfl
theorem zct {l : List Nat} {k : Nat} (h : k < l.length) (hd : l.getD k 0 = 10) : zo (l.drop k) = 0 := by
 rw [zf h]; unfold zo; rw [if_pos hd]
theorem zhc {l : List Nat} {k : Nat} (h : k < l.length) (hd : l.getD k 0 ≠ 10) : zo (l.drop k) = zo (l.drop (k + 1)) + 1 := by
 rw [zf h]; conv => lhs; unfold zo
 rw [if_neg hd]
theorem zv {r t : List Nat} (h : hasB r t = true) : t.length <= r.length := by
 unfold hasB at h
 have h' := congrArg List.length (of_decide_eq_true h)
 rw [List.length_take] at h'
 omega
theorem ji : ∀ (n m : Nat) (r : List Nat) (d k : Nat), r.length <= n -> r.length <= m -> remA n r d k = remA m r d k
 | 0, 0, _, _, _, _, _ => rfl
 | 0, m + 1, r, d, k, h, _ => by
  have : r = [] := List.length_eq_zero_iff.1 (by omega)
  unfold remA; rw [if_pos this]
 | n + 1, 0, r, d, k, _, h => by
  have : r = [] := List.length_eq_zero_iff.1 (by omega)
  unfold remA; rw [if_pos this]
 | n + 1, m + 1, r, d, k, h, h' => by
  by_cases e : r = []
  ·unfold remA; rw [if_pos e, if_pos e]
  ·have hl : 0 < r.length := List.length_pos_iff.2 e
   unfold remA
   rw [if_neg e, if_neg e, ji n m (r.drop 2) (d + 1) (k + 2) (by rw [List.length_drop]; omega) (by rw [List.length_drop]; omega), ji n m (r.drop 2) (d - 1) (k + 2) (by rw [List.length_drop]; omega) (by rw [List.length_drop]; omega), ji n m (r.drop 1) d (k + 1) (by rw [List.length_drop]; omega) (by rw [List.length_drop]; omega)]
def remL (l : List Nat) (k d : Nat) : Option Nat := remA (l.length - k) (l.drop k) d k
theorem gm {l : List Nat} {k d : Nat} (h : ¬ k < l.length) : remL l k d = none := by
 unfold remL; rw [show l.length - k = 0 by omega]; rfl
theorem kh {l : List Nat} {k d : Nat} (h : k < l.length) : remL l k d = if hasB (l.drop k) [35, 124] then remL l (k + 2) (d + 1) else if hasB (l.drop k) [124, 35] then (if d = 1 then some (k + 2) else remL l (k + 2) (d - 1)) else remL l (k + 1) d := by
 unfold remL
 obtain ⟨m, hm⟩ : ∃ m, l.length - k = m + 1 := ⟨l.length - k - 1, by omega⟩
 have e : l.drop k ≠ [] := by intro e; have := congrArg List.length e; rw [List.length_drop] at this; simp at this; omega
 rw [hm]
 conv => lhs; unfold remA
 rw [if_neg e, List.drop_drop, List.drop_drop]
 rw [ji m (l.length - (k + 2)) _ (d + 1) _ (by rw [List.length_drop]; omega) (by rw [List.length_drop]; omega), ji m (l.length - (k + 2)) _ (d - 1) _ (by rw [List.length_drop]; omega) (by rw [List.length_drop]; omega), ji m (l.length - (k + 1)) _ d _ (by rw [List.length_drop]; omega) (by rw [List.length_drop]; omega)]
theorem j8 : ∀ (n : Nat) (r : List Nat) (d k q : Nat), remA n r d (k + q) = (remA n r d k).map (· + q)
 | 0, _, _, _, _ => rfl
 | n + 1, r, d, k, q => by
  unfold remA
  rw [show k + q + 2 = k + 2 + q by omega, show k + q + 1 = k + 1 + q by omega, j8 n _ (d + 1), j8 n _ (d - 1), j8 n _ d]
  split
  ·rfl
  ·split
   ·rfl
   ·split
    ·split <;> rfl
    ·rfl
theorem vp {l : List Nat} {k : Nat} (h : k <= l.length) : remL l k 0 = (remN (l.drop k)).map (· + k) := by
 unfold remL remN
 rw [List.length_drop]
 have := j8 (l.length - k) (l.drop k) 0 0 k
 rw [Nat.zero_add] at this
 exact this
end Go.Proofs.YtbkfinjajkjhaaaGreatDoor
set_option maxRecDepth 100000
namespace Go.Proofs.YtbkfinjajkjhaaaGreatDoor
open Go.RowKit
theorem zbu (a b : Nat) : ((a : Int) == (b : Int)) = (a == b) := by
 rw [Bool.eq_iff_iff, beq_iff_eq, beq_iff_eq]; omega
theorem xr (c : Nat) (hc : c < 256) (w : World) : Calls Tryz.prog 39 #[.int .u8 c] w fun e w' => e = .returned (.bool (blkB c)) /\ w' = w := by
 by_cases h : c = 32 \/ c = 9 \/ c = 10 \/ c = 13
 ·have e : blkB c = true := by unfold blkB; rcases h with h | h | h | h <;> subst h <;> rfl
  rw [e]
  clear e
  rcases h with h | h | h | h <;> subst h
  all_goals
   go_enter Tryz.func39, Tryz.ntmps39
   go_wp2
   go_ret
   exact ⟨rfl, rfl⟩
 ·have e : blkB c = false := by unfold blkB; simp; omega
  rw [e]
  have e1 : ((c : Int) == 32) = false := by simp; omega
  have e2 : ((c : Int) == 9) = false := by simp; omega
  have e3 : ((c : Int) == 10) = false := by simp; omega
  have e4 : ((c : Int) == 13) = false := by simp; omega
  clear e h
  go_enter Tryz.func39, Tryz.ntmps39
  go_wp2
  go_ret
  exact ⟨rfl, rfl⟩
def dlmA (l : List Nat) (k : Nat) : Bool := decide (l.length <= k) || dlmB (l.getD k 0)
set_option maxHeartbeats 4000000 in
theorem zcu (s : ByteArray) (k : Nat) (w : World) (hs : s.size <= 1000000) : Calls Tryz.prog 92 #[.string s, .int .i64 k] w fun e w' => e = .returned (.bool (dlmA (bs s) k)) /\ w' = w := by
 have hl := za s
 by_cases h : k < s.size
 ·have hb := zp s k h
  have hc : (s[k]'h).toNat < 256 := UInt8.toNat_lt _
  have e0 : dlmA (bs s) k = dlmB (s[k]'h).toNat := by unfold dlmA; rw [hb, hl, decide_eq_false (by omega)]; rfl
  rw [e0]
  have CB := hid (fun wx => xr (s[k]'h).toNat hc wx)
  have k0 : (0 : Int) <= (k : Int) := by omega
  have k1 : (k : Int) < (s.size : Int) := by omega
  clear hl e0 hb
  have kd : decide (s.size <= k) = false := by simp; omega
  have e1 : dlmB (s[k]'h).toNat = (blkB (s[k]'h).toNat || ((((s[k]'h).toNat : Int) == 40) || ((((s[k]'h).toNat : Int) == 41) || ((((s[k]'h).toNat : Int) == 34) || (((s[k]'h).toNat : Int) == 59))))) := by
   unfold dlmB
   rw [<- zbu _ 40, <- zbu _ 41, <- zbu _ 34, <- zbu _ 59]
   rfl
  rw [e1]
  clear e1
  obtain ⟨bb, hbb⟩ : ∃ b, b = blkB (s[k]'h).toNat := ⟨_, rfl⟩
  rw [<- hbb] at CB ⊢
  clear hbb
  obtain ⟨b1, t1⟩ : ∃ b, (((s[k]'h).toNat : Int) == 40) = b := ⟨_, rfl⟩
  obtain ⟨b2, t2⟩ : ∃ b, (((s[k]'h).toNat : Int) == 41) = b := ⟨_, rfl⟩
  obtain ⟨b3, t3⟩ : ∃ b, (((s[k]'h).toNat : Int) == 34) = b := ⟨_, rfl⟩
  obtain ⟨b4, t4⟩ : ∃ b, (((s[k]'h).toNat : Int) == 59) = b := ⟨_, rfl⟩
  rw [t1, t2, t3, t4]
  cases bb
  ·cases b1
   ·cases b2
    ·cases b3
     ·cases b4
      all_goals
       go_enter Tryz.func92, Tryz.ntmps92
       go_wp2_with (go_at_call 39; with_reducible refine (CB.out _).mono ?_; rintro e wa ⟨rfl, rfl⟩)
       go_ret
       exact ⟨rfl, rfl⟩
     ·go_enter Tryz.func92, Tryz.ntmps92
      go_wp2_with (go_at_call 39; with_reducible refine (CB.out _).mono ?_; rintro e wa ⟨rfl, rfl⟩)
      go_ret
      exact ⟨rfl, rfl⟩
    ·go_enter Tryz.func92, Tryz.ntmps92
     go_wp2_with (go_at_call 39; with_reducible refine (CB.out _).mono ?_; rintro e wa ⟨rfl, rfl⟩)
     go_ret
     exact ⟨rfl, rfl⟩
   ·go_enter Tryz.func92, Tryz.ntmps92
    go_wp2_with (go_at_call 39; with_reducible refine (CB.out _).mono ?_; rintro e wa ⟨rfl, rfl⟩)
    go_ret
    exact ⟨rfl, rfl⟩
  ·go_enter Tryz.func92, Tryz.ntmps92
   go_wp2_with (go_at_call 39; with_reducible refine (CB.out _).mono ?_; rintro e wa ⟨rfl, rfl⟩)
   go_ret
   exact ⟨rfl, rfl⟩
 ·have e0 : dlmA (bs s) k = true := by unfold dlmA; rw [hl, decide_eq_true (by omega)]; rfl
  rw [e0]
  have k1 : (s.size : Int) <= (k : Int) := by omega
  clear e0 hl
  go_enter Tryz.func92, Tryz.ntmps92
  go_wp2_with fail
  go_ret
  exact ⟨rfl, rfl⟩
theorem zen {l : List Nat} {k : Nat} (h : dlmA l k = true) : zd (l.drop k) = 0 := by
 unfold dlmA at h
 by_cases hk : k < l.length
 ·rw [decide_eq_false (by omega), Bool.false_or] at h; exact xq hk h
 ·exact zel hk
theorem zcv {l : List Nat} {k : Nat} (h : dlmA l k = false) : k < l.length /\ zd (l.drop k) = zd (l.drop (k + 1)) + 1 := by
 unfold dlmA at h
 rw [Bool.or_eq_false_iff] at h
 have hk : k < l.length := by have := of_decide_eq_false h.1; omega
 exact ⟨hk, gl hk h.2⟩
set_option maxHeartbeats 4000000 in
theorem vr (s : ByteArray) (k : Nat) (w : World) (hs : s.size <= 1000000) (hk : k <= s.size) : Calls Tryz.prog 68 #[.string s, .int .i64 k] w fun e w' => e = .returned (.int .i64 ((k + zd ((bs s).drop k) : Nat) : Int)) /\ w' = w := by
 have CD : Hid (∀ (j : Nat) wx, Calls Tryz.prog 92 #[.string s, .int .i64 j] wx fun e w' => e = .returned (.bool (dlmA (bs s) j)) /\ w' = wx) := fun j wx => zcu s j wx hs
 have hl := za s
 obtain ⟨R, hR⟩ : ∃ R, R = k + zd ((bs s).drop k) := ⟨_, rfl⟩
 rw [<- hR]
 have HR := hid hR
 have HLl := hid hl
 clear hR hl
 go_enter Tryz.func68, Tryz.ntmps68
 go_wp2_with fail
 go_loop [1] (fun v => ∃ j : Nat, v = .int .i64 j /\ j <= s.size /\ Hid (R = j + zd ((bs s).drop j))) (fun v => s.size - (intOf v).toNat)
 case atStart => exact ⟨k, rfl, hk, HR.out⟩
 case round =>
  obtain ⟨j, rfl, hj, hI⟩ := hrel
  have C9 := hid (CD.out j)
  obtain ⟨b, hb⟩ : ∃ b, b = dlmA (bs s) j := ⟨_, rfl⟩
  rw [<- hb] at C9
  cases b
  ·obtain ⟨h1, h2⟩ := zcv hb.symm
   have H1 : Hid (R = (j + 1) + zd ((bs s).drop (j + 1))) := by unfold Hid; rw [hI.out, h2]; omega
   have h3 : j < s.size := by have := HLl.out; omega
   clear hb h1 h2
   go_wp2_with (go_at_call 92; with_reducible refine (C9.out _).mono ?_; rintro e wa ⟨rfl, rfl⟩)
   go_round
   case rel => exact ⟨j + 1, by go_num, by omega, H1.out⟩
   case measure => simp [intOf]; omega
  ·have H1 : Hid (R = j) := by unfold Hid; rw [hI.out, zen hb.symm]; omega
   clear hb
   go_wp2_with (go_at_call 92; with_reducible refine (C9.out _).mono ?_; rintro e wa ⟨rfl, rfl⟩)
   go_ret
   exact ⟨by rw [H1.out]; rfl, rfl⟩
end Go.Proofs.YtbkfinjajkjhaaaGreatDoor
namespace Go.Proofs.YtbkfinjajkjhaaaGreatDoor
open Go.RowKit
theorem zu (s : ByteArray) (a b : Nat) : bs (s.extract a b) = ((bs s).drop a).take (b - a) := by
 unfold bs
 rw [ByteArray.data_extract, Array.toList_extract, List.extract_eq_take_drop, List.map_take, List.map_drop]
theorem zlz (s t : ByteArray) : (s.toList == t.toList) = decide (bs s = bs t) := by
 rw [Lib.toList_data, Lib.toList_data]
 unfold bs
 rw [Bool.eq_iff_iff]
 simp only [beq_iff_eq, decide_eq_true_eq]
 constructor
 ·rintro h; rw [h]
 ·intro h
  exact (List.map_inj_right (fun a b hab => UInt8.toNat_inj.1 hab)).1 h
set_option maxHeartbeats 4000000 in
theorem yo (s t : ByteArray) (k : Nat) (w : World) (hs : s.size <= 1000000) (ht : t.size <= 100) (hk : k <= s.size) : Calls Tryz.prog 40 #[.string s, .int .i64 k, .string t] w fun e w' => e = .returned (.bool (hasB ((bs s).drop k) (bs t))) /\ w' = w := by
 have hl := za s
 have hlt := za t
 by_cases h : k + t.size <= s.size
 ·have h1 : (k : Int) + (t.size : Int) <= (s.size : Int) := by omega
  have kd : decide (k + t.size <= s.size) = true := by simp; omega
  have HV : Hid (((s.extract k (k + t.size)).toList == t.toList) = hasB ((bs s).drop k) (bs t)) := by
   unfold Hid hasB
   rw [zlz, zu, hlt]
   congr 3
   omega
  obtain ⟨b, hb⟩ : ∃ b, b = hasB ((bs s).drop k) (bs t) := ⟨_, rfl⟩
  rw [<- hb] at HV ⊢
  clear hb hl hlt
  go_enter Tryz.func40, Tryz.ntmps40
  go_wp2_with fail
  go_ret
  exact ⟨congrArg (fun x => Ending.returned (.bool x)) HV.out, rfl⟩
 ·have e0 : hasB ((bs s).drop k) (bs t) = false := by
   cases e : hasB ((bs s).drop k) (bs t)
   ·rfl
   ·have := zv e; rw [List.length_drop, hl, hlt] at this; omega
  rw [e0]
  have h1 : (s.size : Int) < (k : Int) + (t.size : Int) := by omega
  have kd : decide (k + t.size <= s.size) = false := by simp; omega
  clear e0 hl hlt
  go_enter Tryz.func40, Tryz.ntmps40
  go_wp2_with fail
  go_ret
  exact ⟨rfl, rfl⟩
def plI : Option Nat -> Int
 | none => -1
 | some e => e
set_option maxHeartbeats 8000000 in
theorem zan (s : ByteArray) (k : Nat) (w : World) (hs : s.size <= 1000000) (hk : k <= s.size) (h0 : hasB ((bs s).drop k) [35, 124] = true) : Calls Tryz.prog 41 #[.string s, .int .i64 k] w fun e w' => e = .returned (.int .i64 (plI (remL (bs s) k 0))) /\ w' = w := by
 have CH : Hid (∀ (j : Nat) wx, j <= s.size -> Calls Tryz.prog 40 #[.string s, .int .i64 j, .string ⟨#[35, 124]⟩] wx fun e w' => e = .returned (.bool (hasB ((bs s).drop j) [35, 124])) /\ w' = wx) := fun j wx hj => yo s ⟨#[35, 124]⟩ j wx hs (by decide) hj
 have CG : Hid (∀ (j : Nat) wx, j <= s.size -> Calls Tryz.prog 40 #[.string s, .int .i64 j, .string ⟨#[124, 35]⟩] wx fun e w' => e = .returned (.bool (hasB ((bs s).drop j) [124, 35])) /\ w' = wx) := fun j wx hj => yo s ⟨#[124, 35]⟩ j wx hs (by decide) hj
 have hl := za s
 have HL := hid hl
 have H0 := hid h0
 obtain ⟨R, hR⟩ : ∃ R, R = remL (bs s) k 0 := ⟨_, rfl⟩
 rw [<- hR]
 have HR := hid hR
 clear hR hl h0
 go_enter Tryz.func41, Tryz.ntmps41
 go_wp2_with fail
 go_loop [1, 5] (fun v u => ∃ j d : Nat, v = .int .i64 j /\ u = .int .i64 d /\ j <= s.size /\ d <= j /\ Hid (R = remL (bs s) j d) /\ Hid (1 <= d \/ hasB ((bs s).drop j) [35, 124] = true)) (fun v _ => s.size - (intOf v).toNat)
 case atStart => exact ⟨k, 0, rfl, rfl, hk, Nat.zero_le _, HR.out, .inr H0.out⟩
 case round =>
  obtain ⟨j, d, rfl, rfl, hj, hd, hI, hD⟩ := hrel
  clear HR H0
  by_cases hlt : j < s.size
  ·have g := kh (l := bs s) (k := j) (d := d) (by rw [HL.out]; exact hlt)
   have C1 := hid (fun wx => CH.out j wx hj)
   have C2 := hid (fun wx => CG.out j wx hj)
   obtain ⟨b1, hb1⟩ : ∃ b, b = hasB ((bs s).drop j) [35, 124] := ⟨_, rfl⟩
   obtain ⟨b2, hb2⟩ : ∃ b, b = hasB ((bs s).drop j) [124, 35] := ⟨_, rfl⟩
   have hz1 : b1 = true -> j + 2 <= s.size := fun e => by
    have := zv (hb1.symm.trans e); rw [List.length_drop, HL.out] at this; simp at this; omega
   have hz2 : b2 = true -> j + 2 <= s.size := fun e => by
    have := zv (hb2.symm.trans e); rw [List.length_drop, HL.out] at this; simp at this; omega
   rw [<- hb1] at C1 g hD
   rw [<- hb2] at C2 g
   clear hb1 hb2
   cases b1
   ·have hd1 : 1 <= d := by
     rcases hD.out with h | h
     ·exact h
     ·cases h
    clear hD
    cases b2
    ·have g' : Hid (R = remL (bs s) (j + 1) d) := by unfold Hid; rw [hI.out, g]; rfl
     have dz : ((d : Int) == 0) = false := by simp; omega
     clear g hz1 hz2 hI
     go_wp2_with (first
      | (go_at_call 40; with_reducible refine (C1.out _).mono ?_; rintro e wa ⟨rfl, rfl⟩)
      | (go_at_call 40; with_reducible refine (C2.out _).mono ?_; rintro e wa ⟨rfl, rfl⟩))
     go_round
     case rel => exact ⟨j + 1, d, by go_num, rfl, by omega, by omega, g'.out, .inl hd1⟩
     case measure => simp [intOf]; omega
    ·have hz := hz2 rfl
     by_cases e1 : d = 1
     ·have g' : Hid (R = some (j + 2)) := by unfold Hid; rw [hI.out, g]; simp [e1]
      subst e1
      clear g hz1 hz2 hI
      go_wp2_with (first
       | (go_at_call 40; with_reducible refine (C1.out _).mono ?_; rintro e wa ⟨rfl, rfl⟩)
       | (go_at_call 40; with_reducible refine (C2.out _).mono ?_; rintro e wa ⟨rfl, rfl⟩))
      go_ret
      exact ⟨by rw [g'.out]; rfl, rfl⟩
     ·have g' : Hid (R = remL (bs s) (j + 2) (d - 1)) := by unfold Hid; rw [hI.out, g]; simp [e1]
      have dz : (((d : Int) - 1) == 0) = false := by simp; omega
      have dz' : ¬ ((d : Int) - 1 = 0) := by omega
      clear g hz1 hz2 hI
      go_wp2_with (first
       | (go_at_call 40; with_reducible refine (C1.out _).mono ?_; rintro e wa ⟨rfl, rfl⟩)
       | (go_at_call 40; with_reducible refine (C2.out _).mono ?_; rintro e wa ⟨rfl, rfl⟩))
      go_round
      case rel => exact ⟨j + 2, d - 1, by go_num, by congr 1; omega, by omega, by omega, g'.out, .inl (by omega)⟩
      case measure => simp [intOf]; omega
   ·have hz := hz1 rfl
    have g' : Hid (R = remL (bs s) (j + 2) (d + 1)) := by unfold Hid; rw [hI.out, g]; rfl
    have dz : (((d : Int) + 1) == 0) = false := by simp; omega
    have dz' : ¬ ((d : Int) + 1 = 0) := by omega
    clear g hz1 hz2 hI hD
    go_wp2_with (first
     | (go_at_call 40; with_reducible refine (C1.out _).mono ?_; rintro e wa ⟨rfl, rfl⟩)
     | (go_at_call 40; with_reducible refine (C2.out _).mono ?_; rintro e wa ⟨rfl, rfl⟩))
    go_round
    case rel => exact ⟨j + 2, d + 1, by go_num, by go_num, by omega, by omega, g'.out, .inl (by omega)⟩
    case measure => simp [intOf]; omega
  ·have g' : Hid (R = none) := by unfold Hid; rw [hI.out]; exact gm (by rw [HL.out]; exact hlt)
   clear hI hD
   go_wp2_with fail
   go_ret
   exact ⟨by rw [g'.out]; rfl, rfl⟩
end Go.Proofs.YtbkfinjajkjhaaaGreatDoor
