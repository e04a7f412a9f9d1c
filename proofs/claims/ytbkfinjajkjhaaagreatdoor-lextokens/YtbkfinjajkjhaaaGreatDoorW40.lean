import Derived.Test.YtbkfinjajkjhaaaGreatDoorRL2
import Derived.Test.YtbkfinjajkjhaaaGreatDoorW13
import Derived.Test.YtbkfinjajkjhaaaGreatDoorW3
import Derived.Laws.Bits128
set_option linter.unusedVariables false
set_option linter.unusedSimpArgs false
set_option maxRecDepth 100000
namespace Go.Proofs.YtbkfinjajkjhaaaGreatDoor
open Go.RowKit
theorem qv {r : List Nat} (h : r ≠ []) (h0 : r.getD 0 0 = 59) : 1 <= zo r := by
 cases r with
 | nil => exact absurd rfl h
 | cons c r => simp at h0; subst h0; simp [zo]
theorem qw : ∀ (n : Nat) (r : List Nat) (d k e : Nat), remA n r d k = some e -> k + 2 <= e /\ e <= k + r.length
 | 0, _, _, _, _, h => by cases h
 | n + 1, r, d, k, e, h => by
  unfold remA at h
  split at h
  ·cases h
  ·rename_i hr
   have hl : 0 < r.length := List.length_pos_iff.2 hr
   split at h
   ·rename_i hh
    have h1 := zv hh
    have := qw n _ _ _ _ h
    rw [List.length_drop] at this
    simp at h1
    omega
   ·split at h
    ·rename_i hh
     have h1 := zv hh
     simp at h1
     split at h
     ·cases h; omega
     ·have := qw n _ _ _ _ h
      rw [List.length_drop] at this
      omega
    ·have := qw n _ _ _ _ h
     rw [List.length_drop] at this
     omega
theorem k8 {r : List Nat} {e : Nat} (h : remN r = some e) : 2 <= e /\ e <= r.length := by
 have := qw _ _ _ _ _ h; omega
theorem j9 : ∀ (n m : Nat) (r : List Nat) (k : Nat), r.length <= n -> r.length <= m -> skA n r k = skA m r k
 | 0, 0, _, _, _, _ => rfl
 | 0, m + 1, r, k, h, _ => by
  have : r = [] := List.length_eq_zero_iff.1 (by omega)
  unfold skA; rw [if_pos this]
 | n + 1, 0, r, k, _, h => by
  have : r = [] := List.length_eq_zero_iff.1 (by omega)
  unfold skA; rw [if_pos this]
 | n + 1, m + 1, r, k, h, h' => by
  by_cases e : r = []
  ·unfold skA; rw [if_pos e, if_pos e]
  ·have hl : 0 < r.length := List.length_pos_iff.2 e
   unfold skA
   rw [if_neg e, if_neg e, j9 n m (r.drop 1) (k + 1) (by rw [List.length_drop]; omega) (by rw [List.length_drop]; omega)]
   by_cases e1 : r.getD 0 0 = 59
   ·have := qv e e1
    rw [j9 n m (r.drop (zo r)) (k + zo r) (by rw [List.length_drop]; omega) (by rw [List.length_drop]; omega)]
    simp only [if_pos e1]
   ·simp only [if_neg e1]
    cases hr : remN r with
    | none => rfl
    | some q =>
     have := k8 hr
     simp only
     rw [j9 n m (r.drop q) (k + q) (by rw [List.length_drop]; omega) (by rw [List.length_drop]; omega)]
def skL (l : List Nat) (k : Nat) : Nat × Bool := skA (l.length - k) (l.drop k) k
theorem zao {l : List Nat} {k : Nat} (h : ¬ k < l.length) : skL l k = (k, true) := by
 unfold skL; rw [show l.length - k = 0 by omega]; rfl
theorem zjc {l : List Nat} {k : Nat} (h : k < l.length) : skL l k = if blkB (l.getD k 0) then skL l (k + 1) else if l.getD k 0 = 59 then skL l (k + zo (l.drop k)) else if hasB (l.drop k) [35, 124] then (match remL l k 0 with | none => (k, false) | some e => skL l e) else (k, true) := by
 unfold skL
 obtain ⟨m, hm⟩ : ∃ m, l.length - k = m + 1 := ⟨l.length - k - 1, by omega⟩
 have e : l.drop k ≠ [] := by intro e; have := congrArg List.length e; rw [List.length_drop] at this; simp at this; omega
 have hg : (l.drop k).getD 0 0 = l.getD k 0 := by rw [zf h]; rfl
 rw [hm]
 conv => lhs; unfold skA
 rw [if_neg e, hg, List.drop_drop, List.drop_drop, j9 m (l.length - (k + 1)) _ (k + 1) (by rw [List.length_drop]; omega) (by rw [List.length_drop]; omega)]
 by_cases e1 : l.getD k 0 = 59
 ·have := qv e (by rw [hg]; exact e1)
  rw [j9 m (l.length - (k + zo (l.drop k))) _ (k + zo (l.drop k)) (by rw [List.length_drop]; omega) (by rw [List.length_drop]; omega)]
  simp only [if_pos e1]
 ·simp only [if_neg e1]
  rw [vp (by omega)]
  cases hr : remN (l.drop k) with
  | none => rfl
  | some q =>
   have := k8 hr
   rw [List.length_drop] at this
   simp only [Option.map_some]
   rw [List.drop_drop, j9 m (l.length - (q + k)) _ (k + q) (by rw [List.length_drop]; omega) (by rw [List.length_drop]; omega), Nat.add_comm k q]
theorem zjr {l : List Nat} {k d e : Nat} (hk : k <= l.length) (h : remL l k d = some e) : k + 2 <= e /\ e <= l.length := by
 have := qw _ _ _ _ _ h
 rw [List.length_drop] at this
 omega
def zeo (n : Nat) (b : Bool) : Value := .tuple #[.int .i64 n, .bool b]
set_option maxHeartbeats 8000000 in
theorem zep (s : ByteArray) (k : Nat) (w : World) (hs : s.size <= 1000000) (hk : k <= s.size) : Calls Tryz.prog 23 #[.string s, .int .i64 k] w fun e w' => e = .returned (zeo (skL (bs s) k).1 (skL (bs s) k).2) /\ w' = w := by
 have CH : Hid (∀ (j : Nat) wx, j <= s.size -> Calls Tryz.prog 40 #[.string s, .int .i64 j, .string ⟨#[35, 124]⟩] wx fun e w' => e = .returned (.bool (hasB ((bs s).drop j) [35, 124])) /\ w' = wx) := fun j wx hj => yo s ⟨#[35, 124]⟩ j wx hs (by decide) hj
 have CB : Hid (∀ (j : Nat) (h : j < s.size) wx, Calls Tryz.prog 39 #[.int .u8 ((s[j]'h).toNat : Nat)] wx fun e w' => e = .returned (.bool (blkB (s[j]'h).toNat)) /\ w' = wx) := fun j h wx => xr _ (UInt8.toNat_lt _) wx
 have CR : Hid (∀ (j : Nat) wx, j <= s.size -> hasB ((bs s).drop j) [35, 124] = true -> Calls Tryz.prog 41 #[.string s, .int .i64 j] wx fun e w' => e = .returned (.int .i64 (plI (remL (bs s) j 0))) /\ w' = wx) := fun j wx hj h => zan s j wx hs hj h
 have hl := za s
 have HL := hid hl
 obtain ⟨R, hR⟩ : ∃ R, R = skL (bs s) k := ⟨_, rfl⟩
 rw [<- hR]
 have HR := hid hR
 clear hR hl
 go_enter Tryz.func23, Tryz.ntmps23
 go_wp2_with fail
 go_loop [1] (fun v => ∃ j : Nat, v = .int .i64 j /\ j <= s.size /\ Hid (R = skL (bs s) j)) (fun v => s.size - (intOf v).toNat)
 case atStart => exact ⟨k, rfl, hk, HR.out⟩
 case round =>
  obtain ⟨j, rfl, hj, hI⟩ := hrel
  clear HR
  by_cases hlt : j < s.size
  ·have g := zjc (l := bs s) (k := j) (by rw [HL.out]; exact hlt)
   have C1 := hid (fun wx => CH.out j wx hj)
   have C2 := hid (CB.out j hlt)
   have C3 := hid (fun wx => CR.out j wx hj)
   have hb := zp s j hlt
   have j0 : (0 : Int) <= (j : Int) := by omega
   have j1 : (j : Int) < (s.size : Int) := by omega
   obtain ⟨b1, hb1⟩ : ∃ b, b = blkB (s[j]'hlt).toNat := ⟨_, rfl⟩
   rw [hb] at g
   rw [<- hb1] at C2 g
   cases b1
   ·by_cases h59 : (s[j]'hlt).toNat = 59
    ·have t1 : (((s[j]'hlt).toNat : Int) == 59) = true := by simp; omega
     have g' : Hid (R = skL (bs s) (j + zo ((bs s).drop j))) := by unfold Hid; rw [hI.out, g]; simp [h59]
     have hp : Hid (1 <= zo ((bs s).drop j)) := qv (by intro e; have := congrArg List.length e; rw [List.length_drop, HL.out] at this; simp at this; omega) (by rw [zf (by rw [HL.out]; exact hlt)]; show (bs s).getD j 0 = 59; rw [hb]; exact h59)
     obtain ⟨E, hE⟩ : ∃ E, E = j + zo ((bs s).drop j) := ⟨_, rfl⟩
     rw [<- hE] at g'
     have HE := hid hE
     clear g hI hb hb1 h59 hE
     go_wp2_with (go_at_call 39; with_reducible refine (C2.out _).mono ?_; rintro e wa ⟨rfl, rfl⟩)
     clear t1
     go_loop [1] (fun v => ∃ i : Nat, v = .int .i64 i /\ i <= s.size /\ j <= i /\ Hid (E = i + zo ((bs s).drop i))) (fun v => s.size - (intOf v).toNat)
     case atStart => exact ⟨j, rfl, hj, Nat.le_refl _, HE.out⟩
     case round =>
      obtain ⟨i, rfl, hi, hji, hI⟩ := hrel
      by_cases hli : i < s.size
      ·have i0 : (0 : Int) <= (i : Int) := by omega
       have i1 : (i : Int) < (s.size : Int) := by omega
       have hbi := zp s i hli
       by_cases h10 : (s[i]'hli).toNat = 10
       ·have t2 : (((s[i]'hli).toNat : Int) != 10) = false := by simp; omega
        have e2 : Hid (E = i) := by unfold Hid; rw [hI.out, zct (by rw [HL.out]; exact hli) (by rw [hbi]; exact h10)]; rfl
        have hji' : j < i := by have := e2.out; have := HE.out; have := hp.out; omega
        clear h10 hbi hI
        go_wp2_with fail
        go_round
        case rel => exact ⟨i, rfl, hi, by rw [<- e2.out]; exact g'.out⟩
        case measure => simp [intOf]; omega
       ·have t2 : (((s[i]'hli).toNat : Int) != 10) = true := by simp; omega
        have e2 : Hid (E = (i + 1) + zo ((bs s).drop (i + 1))) := by unfold Hid; rw [hI.out, zhc (by rw [HL.out]; exact hli) (by rw [hbi]; exact h10)]; omega
        clear h10 hbi hI
        go_wp2_with fail
        go_round
        case rel => exact ⟨i + 1, by go_num, by omega, by omega, e2.out⟩
        case measure => simp [intOf]; omega
      ·have e2 : Hid (E = i) := by unfold Hid; rw [hI.out, zem (by rw [HL.out]; exact hli)]; rfl
       have hji' : j < i := by have := e2.out; have := HE.out; have := hp.out; omega
       clear hI
       go_wp2_with fail
       go_round
       case rel => exact ⟨i, rfl, hi, by rw [<- e2.out]; exact g'.out⟩
       case measure => simp [intOf]; omega
    ·have t1 : (((s[j]'hlt).toNat : Int) == 59) = false := by simp; omega
     obtain ⟨b2, hb2⟩ : ∃ b, b = hasB ((bs s).drop j) [35, 124] := ⟨_, rfl⟩
     rw [<- hb2] at C1 g C3
     simp only [if_neg h59] at g
     cases b2
     ·have g' : Hid (R = (j, true)) := by unfold Hid; rw [hI.out, g]; rfl
      clear g hI hb hb1 h59 hb2
      go_wp2_with (first
       | (go_at_call 39; with_reducible refine (C2.out _).mono ?_; rintro e wa ⟨rfl, rfl⟩)
       | (go_at_call 40; with_reducible refine (C1.out _).mono ?_; rintro e wa ⟨rfl, rfl⟩))
      go_ret2
      exact ⟨by rw [g'.out]; rfl, rfl⟩
     ·have C4 := hid (fun wx => C3.out wx rfl)
      cases hr : remL (bs s) j 0 with
      | none =>
       have g' : Hid (R = (j, false)) := by unfold Hid; rw [hI.out, g, hr]; rfl
       rw [hr] at C4
       unfold plI at C4
       clear g hI hb hb1 h59 hb2 hr C3
       go_wp2_with (first
        | (go_at_call 39; with_reducible refine (C2.out _).mono ?_; rintro e wa ⟨rfl, rfl⟩)
        | (go_at_call 40; with_reducible refine (C1.out _).mono ?_; rintro e wa ⟨rfl, rfl⟩)
        | (go_at_call 41; with_reducible refine (C4.out _).mono ?_; rintro e wa ⟨rfl, rfl⟩))
       go_ret2
       exact ⟨by rw [g'.out]; rfl, rfl⟩
      | some q =>
       have g' : Hid (R = skL (bs s) q) := by unfold Hid; rw [hI.out, g, hr]; rfl
       have hq := zjr (by rw [HL.out]; exact hj) hr
       rw [HL.out] at hq
       obtain ⟨hq1, hq2⟩ := hq
       rw [hr] at C4
       unfold plI at C4
       have q0 : ¬ ((q : Int) < 0) := by omega
       clear g hI hb hb1 h59 hb2 hr C3
       go_wp2_with (first
        | (go_at_call 39; with_reducible refine (C2.out _).mono ?_; rintro e wa ⟨rfl, rfl⟩)
        | (go_at_call 40; with_reducible refine (C1.out _).mono ?_; rintro e wa ⟨rfl, rfl⟩)
        | (go_at_call 41; with_reducible refine (C4.out _).mono ?_; rintro e wa ⟨rfl, rfl⟩))
       go_round
       case rel => exact ⟨q, rfl, hq2, g'.out⟩
       case measure => simp [intOf]; omega
   ·have g' : Hid (R = skL (bs s) (j + 1)) := by unfold Hid; rw [hI.out, g]; rfl
    clear g hI hb hb1
    go_wp2_with (go_at_call 39; with_reducible refine (C2.out _).mono ?_; rintro e wa ⟨rfl, rfl⟩)
    go_round
    case rel => exact ⟨j + 1, by go_num, by omega, g'.out⟩
    case measure => simp [intOf]; omega
  ·have g' : Hid (R = (j, true)) := by unfold Hid; rw [hI.out]; exact zao (by rw [HL.out]; exact hlt)
   clear hI
   go_wp2_with fail
   go_ret2
   exact ⟨by rw [g'.out]; rfl, rfl⟩
theorem qa (t : Nat) (h : t < 9223372036854775808) : bits .and .i64 (t : Int) 255 = ((t % 256 : Nat) : Int) := by
 have h1 : (BitVec.ofInt 64 (t : Int)).toNat = t := by
  rw [BitVec.ofInt_natCast, BitVec.toNat_ofNat]; exact Nat.mod_eq_of_lt (by omega)
 show IntKind.i64.wrap ((BitVec.ofInt 64 (t : Int) &&& BitVec.ofInt 64 255).toNat : Int) = _
 rw [BitVec.toNat_and, h1]
 have h2 : (BitVec.ofInt 64 255).toNat = 2 ^ 8 - 1 := by decide
 rw [h2, Nat.and_two_pow_sub_one_eq_mod, IntKind.wrap_i64]
 omega
def dgi (c : Nat) : Int := if dgt c = 36 then -1 else (dgt c : Int)
set_option maxHeartbeats 800000 in
theorem yw (c : Nat) (hc : c < 256) (w : World) :
  Calls Tryz.prog 93 #[.int .u8 c] w fun e w' => e = .returned (.int .i64 (dgi c)) /\ w' = w := by
 by_cases a1 : 48 <= c /\ c <= 57
 ·obtain ⟨a, b⟩ := a1
  have HV : Hid (dgi c = (c : Int) - 48) := by
   have : dgt c = c - 48 := by unfold dgt; rw [if_pos ⟨a, b⟩]
   unfold Hid dgi; rw [this, if_neg (by omega)]; omega
  go_enter Tryz.func93, Tryz.ntmps93
  go_wp2
  go_ret
  exact ⟨ju (by rw [HV.out] <;> omega), rfl⟩
 ·by_cases a2 : 97 <= c /\ c <= 122
  ·obtain ⟨a, b⟩ := a2
   have HV : Hid (dgi c = (c : Int) - 87) := by
    have : dgt c = c - 87 := by unfold dgt; rw [if_neg a1, if_pos ⟨a, b⟩]
    unfold Hid dgi; rw [this, if_neg (by omega)]; omega
   clear a1
   go_enter Tryz.func93, Tryz.ntmps93
   go_wp2
   go_ret
   exact ⟨ju (by rw [HV.out] <;> omega), rfl⟩
  ·by_cases a3 : 65 <= c /\ c <= 90
   ·obtain ⟨a, b⟩ := a3
    have HV : Hid (dgi c = (c : Int) - 55) := by
     have : dgt c = c - 55 := by unfold dgt; rw [if_neg a1, if_neg a2, if_pos ⟨a, b⟩]
     unfold Hid dgi; rw [this, if_neg (by omega)]; omega
    clear a1 a2
    go_enter Tryz.func93, Tryz.ntmps93
    go_wp2
    go_ret
    exact ⟨ju (by rw [HV.out] <;> omega), rfl⟩
   ·have HV : Hid (dgi c = -1) := by
     have : dgt c = 36 := by unfold dgt; rw [if_neg a1, if_neg a2, if_neg a3]
     unfold Hid dgi; rw [this, if_pos rfl]
    have hr : c < 48 \/ (57 < c /\ c < 65) \/ (90 < c /\ c < 97) \/ 122 < c := by omega
    clear a1 a2 a3
    rcases hr with h | ⟨h, h'⟩ | ⟨h, h'⟩ | h
    all_goals
     go_enter Tryz.func93, Tryz.ntmps93
     go_wp2
     go_ret
     exact ⟨ju (by rw [HV.out]), rfl⟩
theorem zeq {l : List Nat} {c : Nat} {r : List Nat} (h : l = c :: r) (hc : c = 43 \/ c = 45) : cutS l = (decide (c = 45), r) := by
 subst h; simp [cutS, hc]
theorem zcw {l : List Nat} {c : Nat} {r : List Nat} (h : l = c :: r) (hc : ¬ (c = 43 \/ c = 45)) : cutS l = (false, c :: r) := by
 subst h; simp [cutS, hc]
theorem ki {rx : Nat} {l : List Nat} (h0 : 0 < l.length) (h : ∀ j, j < l.length -> dgt (l.getD j 0) < rx) : zg (rx : Int) l = true := by
 unfold zg
 rw [Bool.and_eq_true]
 refine ⟨?_, by simp; intro e; rw [e] at h0; simp at h0⟩
 rw [List.all_eq_true]
 intro x hx
 obtain ⟨j, hj, rfl⟩ := List.mem_iff_getElem.1 hx
 have := h j hj
 rw [List.getD_eq_getElem?_getD, List.getElem?_eq_getElem hj] at this
 simpa using this
theorem ql {rx : Nat} {l : List Nat} {j : Nat} (hj : j < l.length) (h : rx <= dgt (l.getD j 0)) : zg (rx : Int) l = false := by
 unfold zg
 rw [Bool.and_eq_false_iff]
 left
 rw [List.all_eq_false]
 exact ⟨l.getD j 0, kz hj, by simp; rw [<- List.getD_eq_getElem?_getD]; omega⟩
theorem vs {rx : Int} : zg rx [] = false := by simp [zg]
theorem zw (l : List Nat) (a j : Nat) : (l.drop a).getD j 0 = l.getD (a + j) 0 := by
 rw [List.getD_eq_getElem?_getD, List.getElem?_drop, <- List.getD_eq_getElem?_getD]
end Go.Proofs.YtbkfinjajkjhaaaGreatDoor
