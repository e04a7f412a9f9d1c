import Derived.Test.YtbkfinjajkjhaaaGreatDoorW13
import Derived.Test.YtbkfinjajkjhaaaGreatDoorW7
import Derived.Laws.Bits128
set_option linter.unusedVariables false
set_option linter.unusedSimpArgs false
namespace Go.Proofs.YtbkfinjajkjhaaaGreatDoor
open Go.RowKit
theorem and_255n (t : Nat) (h : t < 9223372036854775808) : bits .and .i64 (t : Int) 255 = ((t % 256 : Nat) : Int) := by
 have h1 : (BitVec.ofInt 64 (t : Int)).toNat = t := by
  rw [BitVec.ofInt_natCast, BitVec.toNat_ofNat]; exact Nat.mod_eq_of_lt (by omega)
 show IntKind.i64.wrap ((BitVec.ofInt 64 (t : Int) &&& BitVec.ofInt 64 255).toNat : Int) = _
 rw [BitVec.toNat_and, h1]
 have h2 : (BitVec.ofInt 64 255).toNat = 2 ^ 8 - 1 := by decide
 rw [h2, Nat.and_two_pow_sub_one_eq_mod, IntKind.wrap_i64]
 omega
def dgi (c : Nat) : Int := if dgt c = 36 then -1 else (dgt c : Int)
set_option maxHeartbeats 800000 in
theorem rdigit_any (c : Nat) (hc : c < 256) (w : World) :
  Calls Tryz.prog 93 #[.int .u8 c] w fun e w' => e = .returned (.int .i64 (dgi c)) /\ w' = w := by
 by_cases a1 : 48 <= c /\ c <= 57
 ·obtain ⟨a, b⟩ := a1
  have HV : Hid (dgi c = (c : Int) - 48) := by
   have : dgt c = c - 48 := by unfold dgt; rw [if_pos ⟨a, b⟩]
   unfold Hid dgi; rw [this, if_neg (by omega)]; omega
  go_enter Tryz.func93, Tryz.ntmps93
  go_wp2
  go_ret
  exact ⟨ret_i64 (by rw [HV.out] <;> omega), rfl⟩
 ·by_cases a2 : 97 <= c /\ c <= 122
  ·obtain ⟨a, b⟩ := a2
   have HV : Hid (dgi c = (c : Int) - 87) := by
    have : dgt c = c - 87 := by unfold dgt; rw [if_neg a1, if_pos ⟨a, b⟩]
    unfold Hid dgi; rw [this, if_neg (by omega)]; omega
   clear a1
   go_enter Tryz.func93, Tryz.ntmps93
   go_wp2
   go_ret
   exact ⟨ret_i64 (by rw [HV.out] <;> omega), rfl⟩
  ·by_cases a3 : 65 <= c /\ c <= 90
   ·obtain ⟨a, b⟩ := a3
    have HV : Hid (dgi c = (c : Int) - 55) := by
     have : dgt c = c - 55 := by unfold dgt; rw [if_neg a1, if_neg a2, if_pos ⟨a, b⟩]
     unfold Hid dgi; rw [this, if_neg (by omega)]; omega
    clear a1 a2
    go_enter Tryz.func93, Tryz.ntmps93
    go_wp2
    go_ret
    exact ⟨ret_i64 (by rw [HV.out] <;> omega), rfl⟩
   ·have HV : Hid (dgi c = -1) := by
     have : dgt c = 36 := by unfold dgt; rw [if_neg a1, if_neg a2, if_neg a3]
     unfold Hid dgi; rw [this, if_pos rfl]
    have hr : c < 48 \/ (57 < c /\ c < 65) \/ (90 < c /\ c < 97) \/ 122 < c := by omega
    clear a1 a2 a3
    rcases hr with h | ⟨h, h'⟩ | ⟨h, h'⟩ | h
    all_goals
     go_enter Tryz.func93, Tryz.ntmps93
     go_wp2
     go_ret
     exact ⟨ret_i64 (by rw [HV.out]), rfl⟩
theorem cutS_sign {l : List Nat} {c : Nat} {r : List Nat} (h : l = c :: r) (hc : c = 43 \/ c = 45) : cutS l = (decide (c = 45), r) := by
 subst h; simp [cutS, hc]
theorem cutS_plain {l : List Nat} {c : Nat} {r : List Nat} (h : l = c :: r) (hc : ¬ (c = 43 \/ c = 45)) : cutS l = (false, c :: r) := by
 subst h; simp [cutS, hc]
theorem digitsB_of {rx : Nat} {l : List Nat} (h0 : 0 < l.length) (h : ∀ j, j < l.length -> dgt (l.getD j 0) < rx) : digitsB (rx : Int) l = true := by
 unfold digitsB
 rw [Bool.and_eq_true]
 refine ⟨?_, by simp; intro e; rw [e] at h0; simp at h0⟩
 rw [List.all_eq_true]
 intro x hx
 obtain ⟨j, hj, rfl⟩ := List.mem_iff_getElem.1 hx
 have := h j hj
 rw [List.getD_eq_getElem?_getD, List.getElem?_eq_getElem hj] at this
 simpa using this
theorem digitsB_not {rx : Nat} {l : List Nat} {j : Nat} (hj : j < l.length) (h : rx <= dgt (l.getD j 0)) : digitsB (rx : Int) l = false := by
 unfold digitsB
 rw [Bool.and_eq_false_iff]
 left
 rw [List.all_eq_false]
 exact ⟨l.getD j 0, getD_mem hj, by simp; rw [<- List.getD_eq_getElem?_getD]; omega⟩
theorem digitsB_nil {rx : Int} : digitsB rx [] = false := by simp [digitsB]
theorem getD_drop' (l : List Nat) (a j : Nat) : (l.drop a).getD j 0 = l.getD (a + j) 0 := by
 rw [List.getD_eq_getElem?_getD, List.getElem?_drop, <- List.getD_eq_getElem?_getD]
end Go.Proofs.YtbkfinjajkjhaaaGreatDoor
