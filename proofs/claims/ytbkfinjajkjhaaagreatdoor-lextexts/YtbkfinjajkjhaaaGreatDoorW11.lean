import Derived.Test.YtbkfinjajkjhaaaGreatDoorW3
import Derived.Lib.Strings
set_option linter.unusedVariables false
set_option linter.unusedSimpArgs false
namespace Go.Proofs.YtbkfinjajkjhaaaGreatDoor
open Go.RowKit
set_option maxHeartbeats 400000 in
theorem isRadix_any (r : Int) (w : World) :
  Calls Tryz.prog 103 #[.int .i64 r] w fun e w' => e = .returned (.bool (decide (2 <= r /\ r <= 36))) /\ w' = w := by
 by_cases h1 : 2 <= r
 ·have e1 : decide ((2 : Int) <= r) = true := by simp [h1]
  go_enter Tryz.func103, Tryz.ntmps103
  go_wp2
  go_ret
  exact ⟨ret_bool (by simp [h1]), rfl⟩
 ·have e1 : decide ((2 : Int) <= r) = false := by simp; omega
  go_enter Tryz.func103, Tryz.ntmps103
  go_wp2
  go_ret
  exact ⟨ret_bool (by simp [h1]), rfl⟩
def dgt (c : Nat) : Nat := if 48 <= c /\ c <= 57 then c - 48 else if 97 <= c /\ c <= 122 then c - 87 else if 65 <= c /\ c <= 90 then c - 55 else 36
theorem dgt_le (c : Nat) : dgt c <= 36 := by unfold dgt; split <;>(try split) <;>(try split) <;> omega
set_option maxHeartbeats 800000 in
theorem digitOf_any (c : Nat) (hc : c < 256) (w : World) :
  Calls Tryz.prog 132 #[.int .u8 c] w fun e w' => e = .returned (.int .i64 (dgt c)) /\ w' = w := by
 by_cases a1 : 48 <= c /\ c <= 57
 ·obtain ⟨a, b⟩ := a1
  have HV : Hid (dgt c = c - 48) := by unfold Hid dgt; rw [if_pos ⟨a, b⟩]
  go_enter Tryz.func132, Tryz.ntmps132
  go_wp2
  go_ret
  exact ⟨ret_i64 (by rw [HV.out]; omega), rfl⟩
 ·by_cases a2 : 97 <= c /\ c <= 122
  ·obtain ⟨a, b⟩ := a2
   have HV : Hid (dgt c = c - 87) := by unfold Hid dgt; rw [if_neg a1, if_pos ⟨a, b⟩]
   clear a1
   go_enter Tryz.func132, Tryz.ntmps132
   go_wp2
   go_ret
   exact ⟨ret_i64 (by rw [HV.out]; omega), rfl⟩
  ·by_cases a3 : 65 <= c /\ c <= 90
   ·obtain ⟨a, b⟩ := a3
    have HV : Hid (dgt c = c - 55) := by unfold Hid dgt; rw [if_neg a1, if_neg a2, if_pos ⟨a, b⟩]
    clear a1 a2
    go_enter Tryz.func132, Tryz.ntmps132
    go_wp2
    go_ret
    exact ⟨ret_i64 (by rw [HV.out]; omega), rfl⟩
   ·have HV : Hid (dgt c = 36) := by unfold Hid dgt; rw [if_neg a1, if_neg a2, if_neg a3]
    have hr : c < 48 \/ (57 < c /\ c < 65) \/ (90 < c /\ c < 97) \/ 122 < c := by omega
    clear a1 a2 a3
    rcases hr with h | ⟨h, h'⟩ | ⟨h, h'⟩ | h
    all_goals
     go_enter Tryz.func132, Tryz.ntmps132
     go_wp2
     go_ret
     exact ⟨ret_i64 (by rw [HV.out]; rfl), rfl⟩
theorem mulStep {B f vq P vt d x cc : Nat} (h : vq + P * cc = vt * f + d) : vq + P * ((x * f + cc) % B) + P * B * ((x * f + cc) / B) = (vt + P * x) * f + d := by
 have h1 := Nat.div_add_mod (x * f + cc) B
 have h2 : P * ((x * f + cc) % B) + P * B * ((x * f + cc) / B) = P * (x * f + cc) := by
  rw [Nat.mul_assoc, <- Nat.mul_add, Nat.add_comm ((x * f + cc) % B), h1]
 rw [Nat.add_assoc, h2, Nat.mul_add, Nat.add_mul, Nat.mul_assoc P x f]
 omega
theorem set_append_drop {q l : List Nat} {m x : Nat} (hq : q.length = m) (hm : m < l.length) : (q ++ l.drop m).set m x = q ++ [x] ++ l.drop (m + 1) := by
 rw [drop_cons l m hm, List.set_append, if_neg (by omega), hq, Nat.sub_self]
 simp
set_option maxHeartbeats 1000000 in
theorem mulSmall_any (g o n cap : Nat) (cur : Array Value) (l : List Nat) (f d : Nat) (w : World) (W : Win .u32 97 w g o n cur l) (hdg : Dg B32 l) (hn : n <= maxLen) (hf : f < B32) (hd : d < B32) :
  Calls Tryz.prog 133 #[.slice (some ⟨g, o, none⟩) n cap, .int .u32 f, .int .u32 d] w fun e w' => ∃ l' c, e = .returned (.int .u32 (c : Nat)) /\ Onto .u32 97 g o n w w' cur l' /\ Dg B32 l' /\ c < B32 /\ val B32 l' + B32 ^ n * c = val B32 l * f + d := by
 have HW := hid W
 have HD := hid hdg
 have HL := hid W.len
 unfold maxLen at hn
 unfold B32 at hf hd
 clear W hdg
 go_enter Tryz.func133, Tryz.ntmps133
 go_wp2
 go_loopw [7, 8, 9, 10, 15] (fun c _ _ _ i wr => ∃ m : Nat, ∃ cc : Nat, ∃ q : List Nat, m <= n /\ i = .int .i64 m /\ c = .int .u64 cc /\ cc < 4294967296 /\ Hid (q.length = m /\ Dg B32 q /\ val B32 q + B32 ^ m * cc = val B32 (l.take m) * f + d /\ Onto .u32 97 g o n w wr cur (q ++ l.drop m))) (fun _ _ _ _ i _ => n - (intOf i).toNat)
 case atStart => exact ⟨0, d, [], Nat.zero_le _, rfl, rfl, hd, rfl, Dg.nil _, by simp [val], by simpa using HW.out.onto⟩
 case round =>
  obtain ⟨m, cc, q, hm, rfl, rfl, hcc, hI⟩ := hrel
  by_cases hlt : m < n
  ·obtain ⟨x, hx⟩ : ∃ x, x = l.getD m 0 := ⟨_, rfl⟩
   have hll : m < l.length := by rw [HL.out]; exact hlt
   have hxb : x < 4294967296 := by rw [hx]; exact HD.out.getD _ hll
   have hc : wr.cell? ⟨g, o + m, none⟩ = some (.int .u32 x) := by
    have := hI.out.2.2.2.cell (i := m) hlt
    rw [List.getD_eq_getElem?_getD, List.getElem?_append_right (by rw [hI.out.1]; omega), hI.out.1, Nat.sub_self, List.getElem?_drop, Nat.add_zero, <- List.getD_eq_getElem?_getD, <- hx] at this
    exact this
   have hfz : wr.frozen? ⟨g, o + m, none⟩ = false := hI.out.2.2.2.frozen _
   have HX := hid hx
   have HLL := hid hll
   clear hx hll
   have hb : x * f + cc <= 18446744073709551615 := by
    have : x * f <= 4294967295 * 4294967295 := Nat.mul_le_mul (by omega) (by omega)
    omega
   obtain ⟨t, ht⟩ : ∃ t, t = x * f + cc := ⟨_, rfl⟩
   have HT := hid ht
   clear ht
   go_wp2
   obtain ⟨h1, h2, h3, h4⟩ := hI.out
   have e1 : ((x : Int) * f + cc) / 4294967296 = ((t / 4294967296 : Nat) : Int) := by rw [HT.out]; omega
   have e2 : ((x : Int) * f + cc) % 4294967296 = ((t % 4294967296 : Nat) : Int) := by rw [HT.out]; omega
   rw [e1, e2]
   refine ⟨⟨m + 1, t / 4294967296, q ++ [t % 4294967296], by omega, by go_num, rfl, ?_, ?_, ?_, ?_, ?_⟩, by simp [intOf]; omega⟩
   ·rw [HT.out]; omega
   ·simp [h1]
   ·exact h2.append (Dg.one (Nat.mod_lt _ (by decide)))
   ·rw [val_snoc, h1, val_take_succ B32 l m HLL.out, <- HX.out, HT.out, Nat.pow_succ]
    exact mulStep h3
   ·rw [<- set_append_drop h1 HLL.out]
    exact h4.store hlt _
  ·obtain rfl : m = n := by omega
   go_wp2
   go_ret
   obtain ⟨h1, h2, h3, h4⟩ := hI.out
   refine ⟨q, cc, rfl, ?_, h2, hcc, ?_⟩
   ·rw [List.drop_eq_nil_of_le (by rw [HL.out]; omega), List.append_nil] at h4; exact h4
   ·rw [List.take_of_length_le (by rw [HL.out]; omega)] at h3; exact h3
def bs (s : ByteArray) : List Nat := s.data.toList.map UInt8.toNat
theorem bs_length (s : ByteArray) : (bs s).length = s.size := by unfold bs; rw [List.length_map]; rfl
theorem bs_get (s : ByteArray) (k : Nat) (h : k < s.size) : (bs s).getD k 0 = (s[k]'h).toNat := by
 unfold bs
 rw [List.getD_eq_getElem?_getD, List.getElem?_map, List.getElem?_eq_getElem (show k < s.data.toList.length from h)]
 rfl
theorem bs_lt (s : ByteArray) : Dg 256 (bs s) := by
 intro x hx
 obtain ⟨c, _, rfl⟩ := List.mem_map.1 hx
 exact c.toNat_lt
theorem bs_extract (s : ByteArray) (a : Nat) : bs (s.extract a s.size) = (bs s).drop a := by
 unfold bs
 rw [Lib.extract_data, List.take_of_length_le (by rw [List.length_drop]; exact Nat.le_refl _), List.map_drop]
theorem empty_iff (s : ByteArray) : s.toList.isEmpty = decide (s.size = 0) := by
 rw [Lib.toList_data]
 by_cases h : s.size = 0
 ·have : s.data.toList = [] := List.length_eq_zero_iff.1 h
  rw [this]; simp [h]
 ·have : s.data.toList ≠ [] := fun e => h (by show s.data.toList.length = 0; rw [e]; rfl)
  simp only [h, decide_false]
  cases hl : s.data.toList with
  | nil => exact absurd hl this
  | cons => rfl
set_option maxHeartbeats 400000 in
theorem mulSmall_none (ao : Option Addr) (cap : Nat) (f d : Nat) (w : World) (hf : f < B32) (hd : d < B32) :
  Calls Tryz.prog 133 #[.slice ao 0 cap, .int .u32 f, .int .u32 d] w fun e w' => e = .returned (.int .u32 (d : Nat)) /\ w' = w := by
 unfold B32 at hf hd
 go_enter Tryz.func133, Tryz.ntmps133
 go_wp2
 go_loop [7, 15] (fun c i => c = .int .u64 d /\ i = .int .i64 0) (fun _ _ => 0)
 case atStart => exact ⟨rfl, rfl⟩
 case round =>
  obtain ⟨rfl, rfl⟩ := hrel
  go_wp2
  go_ret
  exact ⟨rfl, rfl⟩
def cutS : List Nat -> Bool × List Nat
 | [] => (false, [])
 | c :: r => if c = 43 \/ c = 45 then (decide (c = 45), r) else (false, c :: r)
theorem cutS_len (l : List Nat) : (cutS l).2.length <= l.length := by
 cases l with
 | nil => simp [cutS]
 | cons c r => by_cases h : c = 43 \/ c = 45 <;> simp [cutS, h]
set_option maxHeartbeats 800000 in
theorem cutSign_any (s : ByteArray) (w : World) (hs : s.size <= maxLen) :
  Calls Tryz.prog 104 #[.string s] w fun e w' => ∃ t, e = .returned (.tuple #[.bool (cutS (bs s)).1, .string t]) /\ bs t = (cutS (bs s)).2 /\ Below w.heap.size w w' := by
 unfold maxLen at hs
 by_cases h0 : s.size = 0
 ·have hem : s.toList.isEmpty = true := by rw [empty_iff]; simp [h0]
  have hnil : bs s = [] := List.length_eq_zero_iff.1 (by rw [bs_length]; exact h0)
  have HN := hid hnil
  clear hnil
  go_enter Tryz.func104, Tryz.ntmps104
  go_wp2
  go_ret2
  rw [HN.out]
  exact ⟨s, rfl, by rw [HN.out]; rfl, Below.refl _ _⟩
 ·have hem : s.toList.isEmpty = false := by rw [empty_iff]; simp [h0]
  have hp : 0 < s.size := by omega
  have hc0 := bs_get s 0 hp
  obtain ⟨c, r, hcr⟩ : ∃ c r, bs s = c :: r := by
   cases h : bs s with
   | nil => rw [<- bs_length, h] at hp; simp at hp
   | cons c r => exact ⟨c, r, rfl⟩
  have hcc : c = (s[0]'hp).toNat := by rw [<- hc0, hcr]; rfl
  have HX : Hid (bs (s.extract 1 s.size) = r) := by unfold Hid; rw [bs_extract, hcr]; rfl
  have HC := hid hcr
  clear hc0 hcr
  by_cases h1 : c = 43
  ·have e1 : (((s[0]'hp).toNat : Int) == 43) = true := by rw [<- hcc, h1]; rfl
   have e2 : (((s[0]'hp).toNat : Int) == 45) = false := by rw [<- hcc, h1]; rfl
   have H1 := hid h1
   clear h1 hcc
   go_enter Tryz.func104, Tryz.ntmps104
   go_wp2
   go_quiet (fail)
   go_wp2
   go_ret2
   rw [HC.out, H1.out]
   exact ⟨s.extract 1 s.size, rfl, by rw [HX.out]; rfl, Bd _ _⟩
  ·by_cases h2 : c = 45
   ·have e1 : (((s[0]'hp).toNat : Int) == 43) = false := by rw [<- hcc, h2]; rfl
    have e2 : (((s[0]'hp).toNat : Int) == 45) = true := by rw [<- hcc, h2]; rfl
    have H2 := hid h2
    clear h1 h2 hcc
    go_enter Tryz.func104, Tryz.ntmps104
    go_wp2
    go_quiet (fail)
    go_wp2
    go_ret2
    rw [HC.out, H2.out]
    exact ⟨s.extract 1 s.size, rfl, by rw [HX.out]; rfl, Bd _ _⟩
   ·have e1 : (((s[0]'hp).toNat : Int) == 43) = false := by rw [<- hcc]; simp; omega
    have e2 : (((s[0]'hp).toNat : Int) == 45) = false := by rw [<- hcc]; simp; omega
    have H2 : Hid (cutS (c :: r) = (false, c :: r)) := by simp [Hid, cutS, h1, h2]
    clear h1 h2 hcc
    go_enter Tryz.func104, Tryz.ntmps104
    go_wp2
    go_ret2
    rw [HC.out, H2.out]
    exact ⟨s, rfl, HC.out, Below.refl _ _⟩
set_option maxHeartbeats 800000 in
theorem allDigits_any (s : ByteArray) (radix : Nat) (w : World) (hs : s.size <= maxLen) (hr : radix <= 36) :
  Calls Tryz.prog 105 #[.string s, .int .i64 radix] w fun e w' => e = .returned (.bool ((bs s).all (fun c => decide (dgt c < radix)) && decide (bs s ≠ []))) /\ w' = w := by
 unfold maxLen at hs
 go_enter Tryz.func105, Tryz.ntmps105
 go_wp2
 go_loop [5] (fun i => ∃ k : Nat, k <= s.size /\ i = .int .i64 k /\ Hid (∀ j, j < k -> dgt ((bs s).getD j 0) < radix)) (fun i => s.size - (intOf i).toNat)
 case atStart => exact ⟨0, Nat.zero_le _, rfl, fun j hj => absurd hj (Nat.not_lt_zero _)⟩
 case round =>
  obtain ⟨k, hk, rfl, hI⟩ := hrel
  by_cases hlt : k < s.size
  ·have hd := bs_get s k hlt
   obtain ⟨d, hdd⟩ : ∃ d, d = dgt (s[k]'hlt).toNat := ⟨_, rfl⟩
   have hd36 : d <= 36 := by rw [hdd]; exact dgt_le _
   have HC : Hid (∀ wx, Calls Tryz.prog 132 #[.int .u8 ((s[k]'hlt).toNat : Nat)] wx fun e w' => e = .returned (.int .i64 d) /\ w' = wx) := fun wx => by rw [hdd]; exact digitOf_any _ (s[k]'hlt).toNat_lt wx
   have HD : Hid (d = dgt ((bs s).getD k 0)) := by unfold Hid; rw [hd, hdd]
   clear hdd hd
   by_cases hdr : d < radix
   ·go_wp2_with (go_at_call 132; refine (HC.out _).mono ?_; rintro e w' ⟨rfl, rfl⟩)
    go_round
    case rel => exact ⟨k + 1, by omega, by go_num, by
     intro j hj
     by_cases hjk : j < k
     ·exact hI.out j hjk
     ·obtain rfl : j = k := by omega
      rw [<- HD.out]; exact hdr⟩
    case measure => simp [intOf]; omega
   ·go_wp2_with (go_at_call 132; refine (HC.out _).mono ?_; rintro e w' ⟨rfl, rfl⟩)
    go_ret
    refine ⟨ret_bool ?_, rfl⟩
    symm
    rw [Bool.and_eq_false_iff]
    left
    rw [List.all_eq_false]
    exact ⟨(bs s).getD k 0, getD_mem (by rw [bs_length]; exact hlt), by simp; rw [<- List.getD_eq_getElem?_getD, <- HD.out]; omega⟩
  ·obtain rfl : k = s.size := by omega
   have hem := empty_iff s
   have HE : Hid (decide (bs s = []) = decide (s.size = 0)) := by
    unfold Hid
    rw [decide_eq_decide, <- bs_length]; exact List.length_eq_zero_iff.symm
   have HA : Hid ((bs s).all (fun c => decide (dgt c < radix)) = true) := by
    unfold Hid
    rw [List.all_eq_true]
    intro x hx
    obtain ⟨j, hj, rfl⟩ := List.mem_iff_getElem.1 hx
    have := hI.out j (by rw [<- bs_length]; exact hj)
    rw [List.getD_eq_getElem?_getD, List.getElem?_eq_getElem hj] at this
    simpa using this
   go_wp2
   go_ret
   refine ⟨ret_bool ?_, rfl⟩
   rw [HA.out, decide_eq_emptyBytes, empty_iff]
   simp only [ne_eq, decide_not, HE.out, Bool.true_and]
end Go.Proofs.YtbkfinjajkjhaaaGreatDoor
