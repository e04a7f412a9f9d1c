import Derived.Test.YtbkfinjajkjhaaaGreatDoorRL9
import Derived.Lib.SmallJoins
set_option linter.unusedVariables false
set_option linter.unusedSimpArgs false
set_option maxRecDepth 100000
namespace Go.Proofs.YtbkfinjajkjhaaaGreatDoor
open Go.RowKit
def mayL : List Nat := [33, 36, 37, 38, 42, 47, 58, 60, 61, 62, 63, 94, 95, 126, 43, 45, 46, 64]
theorem mayB_plain {c : Nat} (h : (97 <= c /\ c <= 122) \/ (65 <= c /\ c <= 90) \/ (48 <= c /\ c <= 57) \/ 128 <= c) : mayB c = true := by
 unfold mayB
 simp only [Bool.or_eq_true, Bool.and_eq_true, decide_eq_true_eq]
 omega
theorem mayB_sign {c : Nat} (h : ¬ ((97 <= c /\ c <= 122) \/ (65 <= c /\ c <= 90) \/ (48 <= c /\ c <= 57) \/ 128 <= c)) : mayB c = mayL.contains c := by
 unfold mayB
 have : ((decide (97 <= c) && decide (c <= 122)) || (decide (65 <= c) && decide (c <= 90)) || (decide (48 <= c) && decide (c <= 57)) || decide (128 <= c)) = false := by
  rw [<- Bool.not_eq_true]
  simp only [Bool.or_eq_true, Bool.and_eq_true, decide_eq_true_eq]
  omega
 rw [this, Bool.false_or]; rfl
theorem may_cell (w : World) (t : TypeId) (j : Nat) (hj : j < 18) : (w.alloc (.cells (mayL.map (fun (x : Nat) => Value.int .u8 (x : Int))).toArray t (18, 19))).cell? ⟨w.heap.size, j, none⟩ = some (.int .u8 (mayL.getD j 0 : Nat)) := by
 have h : (w.alloc (.cells (mayL.map (fun (x : Nat) => Value.int .u8 (x : Int))).toArray t (18, 19))).heap[w.heap.size]? = some (.cells (mayL.map (fun (x : Nat) => Value.int .u8 (x : Int))).toArray t (18, 19)) := heap_alloc_new w _
 rw [show (w.alloc (.cells (mayL.map (fun (x : Nat) => Value.int .u8 (x : Int))).toArray t (18, 19))).cell? ⟨w.heap.size, j, none⟩ = (mayL.map (fun (x : Nat) => Value.int .u8 (x : Int))).toArray[j]? by unfold World.cell?; rw [h]; simp, List.getElem?_toArray, List.getElem?_map, List.getD_eq_getElem?_getD, List.getElem?_eq_getElem (show j < mayL.length from hj)]
 rfl
theorem contains_go {l : List Nat} {c k : Nat} (h : k < l.length) (hc : c ≠ l.getD k 0) : (l.drop k).contains c = (l.drop (k + 1)).contains c := by
 rw [dropN_cons h, List.contains_cons, show (c == l.getD k 0) = false by simpa using hc, Bool.false_or]
theorem contains_hit {l : List Nat} {c k : Nat} (h : k < l.length) (hc : c = l.getD k 0) : (l.drop k).contains c = true := by
 rw [dropN_cons h, List.contains_cons, show (c == l.getD k 0) = true by simpa using hc, Bool.true_or]
set_option maxHeartbeats 4000000 in
theorem rmay_any (c : Nat) (hc : c < 256) (w : World) : Calls Tryz.prog 71 #[.int .u8 c] w fun e w' => e = .returned (.bool (mayB c)) /\ Below w.heap.size w w' := by
 by_cases h : (97 <= c /\ c <= 122) \/ (65 <= c /\ c <= 90) \/ (48 <= c /\ c <= 57) \/ 128 <= c
 ·rw [mayB_plain h]
  rcases h with h | h | h | h
  ·have q0 : (97 : Int) <= (c : Int) := by omega
   have q1 : (c : Int) <= 122 := by omega
   have q2 : (65 : Int) <= (c : Int) := by omega
   have q3 : ¬ ((c : Int) <= 90) := by omega
   have q4 : (48 : Int) <= (c : Int) := by omega
   have q5 : ¬ ((c : Int) <= 57) := by omega
   have q6 : ¬ ((128 : Int) <= (c : Int)) := by omega
   clear h
   go_enter Tryz.func71, Tryz.ntmps71
   go_wp2_with fail
   go_ret
   exact ⟨rfl, Below.refl _ _⟩
  ·have q0 : ¬ ((97 : Int) <= (c : Int)) := by omega
   have q1 : (c : Int) <= 122 := by omega
   have q2 : (65 : Int) <= (c : Int) := by omega
   have q3 : (c : Int) <= 90 := by omega
   have q4 : (48 : Int) <= (c : Int) := by omega
   have q5 : ¬ ((c : Int) <= 57) := by omega
   have q6 : ¬ ((128 : Int) <= (c : Int)) := by omega
   clear h
   go_enter Tryz.func71, Tryz.ntmps71
   go_wp2_with fail
   go_ret
   exact ⟨rfl, Below.refl _ _⟩
  ·have q0 : ¬ ((97 : Int) <= (c : Int)) := by omega
   have q1 : (c : Int) <= 122 := by omega
   have q2 : ¬ ((65 : Int) <= (c : Int)) := by omega
   have q3 : (c : Int) <= 90 := by omega
   have q4 : (48 : Int) <= (c : Int) := by omega
   have q5 : (c : Int) <= 57 := by omega
   have q6 : ¬ ((128 : Int) <= (c : Int)) := by omega
   clear h
   go_enter Tryz.func71, Tryz.ntmps71
   go_wp2_with fail
   go_ret
   exact ⟨rfl, Below.refl _ _⟩
  ·have q0 : (97 : Int) <= (c : Int) := by omega
   have q1 : ¬ ((c : Int) <= 122) := by omega
   have q2 : (65 : Int) <= (c : Int) := by omega
   have q3 : ¬ ((c : Int) <= 90) := by omega
   have q4 : (48 : Int) <= (c : Int) := by omega
   have q5 : ¬ ((c : Int) <= 57) := by omega
   have q6 : (128 : Int) <= (c : Int) := by omega
   clear h
   go_enter Tryz.func71, Tryz.ntmps71
   go_wp2_with fail
   go_ret
   exact ⟨rfl, Below.refl _ _⟩
 ·obtain ⟨R, hR⟩ : ∃ R, R = mayB c := ⟨_, rfl⟩
  have HR : Hid (R = (mayL.drop 0).contains c) := by unfold Hid; rw [hR, mayB_sign h]; rfl
  rw [<- hR]
  clear hR
  have HW := hid (Ba w (.cells (mayL.map (fun (x : Nat) => Value.int .u8 (x : Int))).toArray 5 (18, 19)))
  have HC := hid (fun j hj => may_cell w 5 j hj)
  have HV := Go.Joins.run_convert_bytes_const_at (P := Tryz.prog) w 22 5 (mayL.map (fun (x : Nat) => Value.int .u8 (x : Int))).toArray 18 18 w.heap.size rfl Tryz.underlying22 Tryz.underlying5
  obtain ⟨W, hW⟩ : ∃ W, W = w.alloc (.cells (mayL.map (fun (x : Nat) => Value.int .u8 (x : Int))).toArray 5 (18, 19)) := ⟨_, rfl⟩
  rw [show (mayL.map (fun (x : Nat) => Value.int .u8 (x : Int))).toArray.size = 18 from rfl, <- hW] at HV
  rw [<- hW] at HW HC
  clear hW
  have HV : (convert 22 22 (.slice (some ⟨w.heap.size, 0, none⟩) 18 18)).run Tryz.prog (w.alloc (.cells #[.int .u8 33, .int .u8 36, .int .u8 37, .int .u8 38, .int .u8 42, .int .u8 47, .int .u8 58, .int .u8 60, .int .u8 61, .int .u8 62, .int .u8 63, .int .u8 94, .int .u8 95, .int .u8 126, .int .u8 43, .int .u8 45, .int .u8 46, .int .u8 64] 5)) = .ok (.slice (some ⟨w.heap.size, 0, none⟩) 18 18) W := HV
  rcases (by omega : c < 48 \/ (58 <= c /\ c < 65) \/ (91 <= c /\ c < 97) \/ (123 <= c /\ c < 128)) with h | h | h | h
  ·have q0 : ¬ ((97 : Int) <= (c : Int)) := by omega
   have q1 : (c : Int) <= 122 := by omega
   have q2 : ¬ ((65 : Int) <= (c : Int)) := by omega
   have q3 : (c : Int) <= 90 := by omega
   have q4 : ¬ ((48 : Int) <= (c : Int)) := by omega
   have q5 : (c : Int) <= 57 := by omega
   have q6 : ¬ ((128 : Int) <= (c : Int)) := by omega
   clear h
   go_enter Tryz.func71, Tryz.ntmps71
   go_wp2_with fail
   clear HV
   go_loopg [34] 18 (fun g v wx => ∃ j : Nat, v = .int .i64 j /\ j <= 18 /\ g = 18 - j /\ wx = W /\ Hid (R = (mayL.drop j).contains c))
   case atStart => exact ⟨0, rfl, by omega, rfl, rfl, HR.out⟩
   case round =>
    obtain ⟨j, rfl, hj, rfl, rfl, hI⟩ := hrel
    clear HR
    by_cases hlt : j < 18
    ·have hcell := HC.out j hlt
     obtain ⟨x, hx⟩ : ∃ x, x = mayL.getD j 0 := ⟨_, rfl⟩
     rw [<- hx] at hcell
     have j1 : (j : Int) < 18 := by omega
     by_cases hcx : c = x
     ·have t1 : ((c : Int) == (x : Int)) = true := by simp; omega
      have e1 : Hid (R = true) := by unfold Hid; rw [hI.out]; exact contains_hit hlt (hcx.trans hx)
      clear hI hx hcx
      go_wp2_with fail
      go_ret
      exact ⟨by rw [e1.out]; rfl, HW.out⟩
     ·have t1 : ((c : Int) == (x : Int)) = false := by simp; omega
      have e1 : Hid (R = (mayL.drop (j + 1)).contains c) := by unfold Hid; rw [hI.out]; exact contains_go hlt (by rw [<- hx]; exact hcx)
      clear hI hx hcx
      go_wp2_with fail
      go_roundg (18 - (j + 1))
      case measure => omega
      case rel => exact ⟨j + 1, by go_num, by omega, rfl, rfl, e1.out⟩
    ·obtain rfl : j = 18 := by omega
     have e1 : Hid (R = false) := hI.out
     clear hI
     go_wp2_with fail
     go_ret
     exact ⟨by rw [e1.out]; rfl, HW.out⟩
  ·have q0 : ¬ ((97 : Int) <= (c : Int)) := by omega
   have q1 : (c : Int) <= 122 := by omega
   have q2 : ¬ ((65 : Int) <= (c : Int)) := by omega
   have q3 : (c : Int) <= 90 := by omega
   have q4 : (48 : Int) <= (c : Int) := by omega
   have q5 : ¬ ((c : Int) <= 57) := by omega
   have q6 : ¬ ((128 : Int) <= (c : Int)) := by omega
   clear h
   go_enter Tryz.func71, Tryz.ntmps71
   go_wp2_with fail
   clear HV
   go_loopg [34] 18 (fun g v wx => ∃ j : Nat, v = .int .i64 j /\ j <= 18 /\ g = 18 - j /\ wx = W /\ Hid (R = (mayL.drop j).contains c))
   case atStart => exact ⟨0, rfl, by omega, rfl, rfl, HR.out⟩
   case round =>
    obtain ⟨j, rfl, hj, rfl, rfl, hI⟩ := hrel
    clear HR
    by_cases hlt : j < 18
    ·have hcell := HC.out j hlt
     obtain ⟨x, hx⟩ : ∃ x, x = mayL.getD j 0 := ⟨_, rfl⟩
     rw [<- hx] at hcell
     have j1 : (j : Int) < 18 := by omega
     by_cases hcx : c = x
     ·have t1 : ((c : Int) == (x : Int)) = true := by simp; omega
      have e1 : Hid (R = true) := by unfold Hid; rw [hI.out]; exact contains_hit hlt (hcx.trans hx)
      clear hI hx hcx
      go_wp2_with fail
      go_ret
      exact ⟨by rw [e1.out]; rfl, HW.out⟩
     ·have t1 : ((c : Int) == (x : Int)) = false := by simp; omega
      have e1 : Hid (R = (mayL.drop (j + 1)).contains c) := by unfold Hid; rw [hI.out]; exact contains_go hlt (by rw [<- hx]; exact hcx)
      clear hI hx hcx
      go_wp2_with fail
      go_roundg (18 - (j + 1))
      case measure => omega
      case rel => exact ⟨j + 1, by go_num, by omega, rfl, rfl, e1.out⟩
    ·obtain rfl : j = 18 := by omega
     have e1 : Hid (R = false) := hI.out
     clear hI
     go_wp2_with fail
     go_ret
     exact ⟨by rw [e1.out]; rfl, HW.out⟩
  ·have q0 : ¬ ((97 : Int) <= (c : Int)) := by omega
   have q1 : (c : Int) <= 122 := by omega
   have q2 : (65 : Int) <= (c : Int) := by omega
   have q3 : ¬ ((c : Int) <= 90) := by omega
   have q4 : (48 : Int) <= (c : Int) := by omega
   have q5 : ¬ ((c : Int) <= 57) := by omega
   have q6 : ¬ ((128 : Int) <= (c : Int)) := by omega
   clear h
   go_enter Tryz.func71, Tryz.ntmps71
   go_wp2_with fail
   clear HV
   go_loopg [34] 18 (fun g v wx => ∃ j : Nat, v = .int .i64 j /\ j <= 18 /\ g = 18 - j /\ wx = W /\ Hid (R = (mayL.drop j).contains c))
   case atStart => exact ⟨0, rfl, by omega, rfl, rfl, HR.out⟩
   case round =>
    obtain ⟨j, rfl, hj, rfl, rfl, hI⟩ := hrel
    clear HR
    by_cases hlt : j < 18
    ·have hcell := HC.out j hlt
     obtain ⟨x, hx⟩ : ∃ x, x = mayL.getD j 0 := ⟨_, rfl⟩
     rw [<- hx] at hcell
     have j1 : (j : Int) < 18 := by omega
     by_cases hcx : c = x
     ·have t1 : ((c : Int) == (x : Int)) = true := by simp; omega
      have e1 : Hid (R = true) := by unfold Hid; rw [hI.out]; exact contains_hit hlt (hcx.trans hx)
      clear hI hx hcx
      go_wp2_with fail
      go_ret
      exact ⟨by rw [e1.out]; rfl, HW.out⟩
     ·have t1 : ((c : Int) == (x : Int)) = false := by simp; omega
      have e1 : Hid (R = (mayL.drop (j + 1)).contains c) := by unfold Hid; rw [hI.out]; exact contains_go hlt (by rw [<- hx]; exact hcx)
      clear hI hx hcx
      go_wp2_with fail
      go_roundg (18 - (j + 1))
      case measure => omega
      case rel => exact ⟨j + 1, by go_num, by omega, rfl, rfl, e1.out⟩
    ·obtain rfl : j = 18 := by omega
     have e1 : Hid (R = false) := hI.out
     clear hI
     go_wp2_with fail
     go_ret
     exact ⟨by rw [e1.out]; rfl, HW.out⟩
  ·have q0 : (97 : Int) <= (c : Int) := by omega
   have q1 : ¬ ((c : Int) <= 122) := by omega
   have q2 : (65 : Int) <= (c : Int) := by omega
   have q3 : ¬ ((c : Int) <= 90) := by omega
   have q4 : (48 : Int) <= (c : Int) := by omega
   have q5 : ¬ ((c : Int) <= 57) := by omega
   have q6 : ¬ ((128 : Int) <= (c : Int)) := by omega
   clear h
   go_enter Tryz.func71, Tryz.ntmps71
   go_wp2_with fail
   clear HV
   go_loopg [34] 18 (fun g v wx => ∃ j : Nat, v = .int .i64 j /\ j <= 18 /\ g = 18 - j /\ wx = W /\ Hid (R = (mayL.drop j).contains c))
   case atStart => exact ⟨0, rfl, by omega, rfl, rfl, HR.out⟩
   case round =>
    obtain ⟨j, rfl, hj, rfl, rfl, hI⟩ := hrel
    clear HR
    by_cases hlt : j < 18
    ·have hcell := HC.out j hlt
     obtain ⟨x, hx⟩ : ∃ x, x = mayL.getD j 0 := ⟨_, rfl⟩
     rw [<- hx] at hcell
     have j1 : (j : Int) < 18 := by omega
     by_cases hcx : c = x
     ·have t1 : ((c : Int) == (x : Int)) = true := by simp; omega
      have e1 : Hid (R = true) := by unfold Hid; rw [hI.out]; exact contains_hit hlt (hcx.trans hx)
      clear hI hx hcx
      go_wp2_with fail
      go_ret
      exact ⟨by rw [e1.out]; rfl, HW.out⟩
     ·have t1 : ((c : Int) == (x : Int)) = false := by simp; omega
      have e1 : Hid (R = (mayL.drop (j + 1)).contains c) := by unfold Hid; rw [hI.out]; exact contains_go hlt (by rw [<- hx]; exact hcx)
      clear hI hx hcx
      go_wp2_with fail
      go_roundg (18 - (j + 1))
      case measure => omega
      case rel => exact ⟨j + 1, by go_num, by omega, rfl, rfl, e1.out⟩
    ·obtain rfl : j = 18 := by omega
     have e1 : Hid (R = false) := hI.out
     clear hI
     go_wp2_with fail
     go_ret
     exact ⟨by rw [e1.out]; rfl, HW.out⟩
theorem dgt_ten (c : Nat) : dgt c < 10 ↔ 48 <= c /\ c <= 57 := by unfold dgt; split <;>(try split) <;>(try split) <;> omega
def decB (l : List Nat) : Bool := l.all (fun c => decide (dgt c < 10))
theorem decB_go {l : List Nat} {k : Nat} (h : k < l.length) (hd : 48 <= l.getD k 0 /\ l.getD k 0 <= 57) : decB (l.drop k) = decB (l.drop (k + 1)) := by
 rw [dropN_cons h]; unfold decB; rw [List.all_cons, decide_eq_true ((dgt_ten _).2 hd), Bool.true_and]
theorem decB_stop {l : List Nat} {k : Nat} (h : k < l.length) (hd : ¬ (48 <= l.getD k 0 /\ l.getD k 0 <= 57)) : decB (l.drop k) = false := by
 rw [dropN_cons h]; unfold decB; rw [List.all_cons, decide_eq_false (fun e => hd ((dgt_ten _).1 e)), Bool.false_and]
theorem digits_dec (l : List Nat) : digitsB 10 l = (decB l && decide (l ≠ [])) := by
 unfold digitsB decB
 congr 1
 apply List.all_congr rfl
 intro c; congr 1; exact propext (by omega)
set_option maxHeartbeats 4000000 in
theorem rwholeT_any (s : ByteArray) (w : World) (hs : s.size <= 1000000) : Calls Tryz.prog 69 #[.string s] w fun e w' => e = .returned (.bool (digitsB 10 (cutS (bs s)).2)) /\ w' = w := by
 have hl := bs_length s
 by_cases h0 : s.size = 0
 ·have e2 : s = ⟨#[]⟩ := bs_ext (by rw [List.length_eq_zero_iff.1 (by omega : (bs s).length = 0)]; rfl)
  subst e2
  rw [show digitsB 10 (cutS (bs ⟨#[]⟩)).2 = false from rfl]
  clear hl
  go_enter Tryz.func69, Tryz.ntmps69
  go_wp2_with fail
  go_loopg [3] 0 (fun g v wx => v = .int .i64 0 /\ wx = w)
  case atStart => exact ⟨rfl, rfl⟩
  case round =>
   obtain ⟨rfl, rfl⟩ := hrel
   go_wp2_with fail
   go_ret
   exact ⟨rfl, rfl⟩
 ·have p0 : 0 < s.size := by omega
  have hb := bs_get s 0 p0
  have hne : bs s ≠ [] := by intro e; rw [e] at hl; simp at hl; omega
  obtain ⟨R, hR⟩ : ∃ R, R = digitsB 10 (cutS (bs s)).2 := ⟨_, rfl⟩
  rw [<- hR]
  have f0 : (s.toList == []) = false := by rw [test_str]; exact decide_eq_false hne
  have f0' : (s.toList != []) = true := by rw [bne, f0]; rfl
  have i1 : (0 : Int) < (s.size : Int) := by omega
  have hcs : bs s = (s[0]'p0).toNat :: (bs s).drop 1 := by have := dropN_cons (l := bs s) (k := 0) (by omega); rw [List.drop_zero, hb] at this; exact this
  rcases (by omega : (s[0]'p0).toNat = 43 \/ (s[0]'p0).toNat = 45 \/ ((s[0]'p0).toNat ≠ 43 /\ (s[0]'p0).toNat ≠ 45)) with h | h | ⟨h, h'⟩
  ·have hcut : (cutS (bs s)).2 = bs (s.extract 1 s.size) := by
    rw [bs_extract, hcs]; simp [cutS, h]
   have t1 : (((s[0]'p0).toNat : Int) == 43) = true := by simp; omega
   have t2 : (((s[0]'p0).toNat : Int) == 45) = false := by simp; omega
   have s1 : (1 : Int) <= (s.size : Int) := by omega
   obtain ⟨u, hu⟩ : ∃ u, s.extract 1 s.size = u := ⟨_, rfl⟩
   rw [hu] at hcut
   have hus : u.size <= 1000000 := by rw [<- hu, ByteArray.size_extract]; omega
   clear h
   have HLu : Hid ((bs u).length = u.size) := bs_length u
   have HZ : Hid (u.toList.isEmpty = decide (bs u = [])) := by
    unfold Hid; rw [show u.toList.isEmpty = (u.toList == []) by cases u.toList <;> rfl, test_str]; rfl
   have HR : Hid (R = (decB ((bs u).drop 0) && decide (bs u ≠ []))) := by unfold Hid; rw [hR, hcut, digits_dec]; rfl
   clear hcs hb hne hl hR hcut
   go_enter Tryz.func69, Tryz.ntmps69
   go_wp2_with fail
   go_loopg [3] u.size (fun g v wx => ∃ j : Nat, v = .int .i64 j /\ j <= u.size /\ g = u.size - j /\ wx = w /\ Hid (R = (decB ((bs u).drop j) && decide (bs u ≠ []))))
   case atStart => exact ⟨0, rfl, Nat.zero_le _, rfl, rfl, HR.out⟩
   case round =>
    obtain ⟨j, rfl, hj, rfl, rfl, hI⟩ := hrel
    clear HR
    by_cases hlt : j < u.size
    ·have hbj := bs_get u j hlt
     have j0 : (0 : Int) <= (j : Int) := by omega
     have j1 : (j : Int) < (u.size : Int) := by omega
     by_cases d1 : 48 <= (u[j]'hlt).toNat
     ·have d1' : ¬ (((u[j]'hlt).toNat : Int) < 48) := by omega
      by_cases d2 : (u[j]'hlt).toNat <= 57
      ·have d2' : ¬ ((57 : Int) < ((u[j]'hlt).toNat : Int)) := by omega
       have e1 : Hid (R = (decB ((bs u).drop (j + 1)) && decide (bs u ≠ []))) := by unfold Hid; rw [hI.out, decB_go (by rw [HLu.out]; exact hlt) (by rw [hbj]; exact ⟨d1, d2⟩)]
       clear hI hbj
       go_wp2_with fail
       go_roundg (u.size - (j + 1))
       case measure => omega
       case rel => exact ⟨j + 1, by go_num, by omega, rfl, rfl, e1.out⟩
      ·have d2' : (57 : Int) < ((u[j]'hlt).toNat : Int) := by omega
       have e1 : Hid (R = false) := by unfold Hid; rw [hI.out, decB_stop (by rw [HLu.out]; exact hlt) (by rw [hbj]; omega)]; rfl
       clear hI hbj
       go_wp2_with fail
       go_ret
       exact ⟨by rw [e1.out]; rfl, rfl⟩
     ·have d1' : ((u[j]'hlt).toNat : Int) < 48 := by omega
      have e1 : Hid (R = false) := by unfold Hid; rw [hI.out, decB_stop (by rw [HLu.out]; exact hlt) (by rw [hbj]; omega)]; rfl
      clear hI hbj
      go_wp2_with fail
      go_ret
      exact ⟨by rw [e1.out]; rfl, rfl⟩
    ·obtain rfl : j = u.size := by omega
     have e1 : Hid (R = decide (bs u ≠ [])) := by unfold Hid; rw [hI.out, List.drop_eq_nil_of_le (by rw [HLu.out]; exact Nat.le_refl _)]; rfl
     clear hI
     obtain ⟨b, hbz⟩ : ∃ b, decide (bs u = []) = b := ⟨_, rfl⟩
     have hz := HZ.out
     rw [hbz] at hz
     have e2 : Hid (R = !b) := by unfold Hid; rw [e1.out, <- hbz]; by_cases h : bs u = [] <;> simp [h]
     clear e1 HZ hbz
     go_wp2_with fail
     go_ret
     exact ⟨by rw [e2.out]; rfl, rfl⟩
  ·have hcut : (cutS (bs s)).2 = bs (s.extract 1 s.size) := by
    rw [bs_extract, hcs]; simp [cutS, h]
   have t1 : (((s[0]'p0).toNat : Int) == 43) = false := by simp; omega
   have t2 : (((s[0]'p0).toNat : Int) == 45) = true := by simp; omega
   have s1 : (1 : Int) <= (s.size : Int) := by omega
   obtain ⟨u, hu⟩ : ∃ u, s.extract 1 s.size = u := ⟨_, rfl⟩
   rw [hu] at hcut
   have hus : u.size <= 1000000 := by rw [<- hu, ByteArray.size_extract]; omega
   clear h
   have HLu : Hid ((bs u).length = u.size) := bs_length u
   have HZ : Hid (u.toList.isEmpty = decide (bs u = [])) := by
    unfold Hid; rw [show u.toList.isEmpty = (u.toList == []) by cases u.toList <;> rfl, test_str]; rfl
   have HR : Hid (R = (decB ((bs u).drop 0) && decide (bs u ≠ []))) := by unfold Hid; rw [hR, hcut, digits_dec]; rfl
   clear hcs hb hne hl hR hcut
   go_enter Tryz.func69, Tryz.ntmps69
   go_wp2_with fail
   go_loopg [3] u.size (fun g v wx => ∃ j : Nat, v = .int .i64 j /\ j <= u.size /\ g = u.size - j /\ wx = w /\ Hid (R = (decB ((bs u).drop j) && decide (bs u ≠ []))))
   case atStart => exact ⟨0, rfl, Nat.zero_le _, rfl, rfl, HR.out⟩
   case round =>
    obtain ⟨j, rfl, hj, rfl, rfl, hI⟩ := hrel
    clear HR
    by_cases hlt : j < u.size
    ·have hbj := bs_get u j hlt
     have j0 : (0 : Int) <= (j : Int) := by omega
     have j1 : (j : Int) < (u.size : Int) := by omega
     by_cases d1 : 48 <= (u[j]'hlt).toNat
     ·have d1' : ¬ (((u[j]'hlt).toNat : Int) < 48) := by omega
      by_cases d2 : (u[j]'hlt).toNat <= 57
      ·have d2' : ¬ ((57 : Int) < ((u[j]'hlt).toNat : Int)) := by omega
       have e1 : Hid (R = (decB ((bs u).drop (j + 1)) && decide (bs u ≠ []))) := by unfold Hid; rw [hI.out, decB_go (by rw [HLu.out]; exact hlt) (by rw [hbj]; exact ⟨d1, d2⟩)]
       clear hI hbj
       go_wp2_with fail
       go_roundg (u.size - (j + 1))
       case measure => omega
       case rel => exact ⟨j + 1, by go_num, by omega, rfl, rfl, e1.out⟩
      ·have d2' : (57 : Int) < ((u[j]'hlt).toNat : Int) := by omega
       have e1 : Hid (R = false) := by unfold Hid; rw [hI.out, decB_stop (by rw [HLu.out]; exact hlt) (by rw [hbj]; omega)]; rfl
       clear hI hbj
       go_wp2_with fail
       go_ret
       exact ⟨by rw [e1.out]; rfl, rfl⟩
     ·have d1' : ((u[j]'hlt).toNat : Int) < 48 := by omega
      have e1 : Hid (R = false) := by unfold Hid; rw [hI.out, decB_stop (by rw [HLu.out]; exact hlt) (by rw [hbj]; omega)]; rfl
      clear hI hbj
      go_wp2_with fail
      go_ret
      exact ⟨by rw [e1.out]; rfl, rfl⟩
    ·obtain rfl : j = u.size := by omega
     have e1 : Hid (R = decide (bs u ≠ [])) := by unfold Hid; rw [hI.out, List.drop_eq_nil_of_le (by rw [HLu.out]; exact Nat.le_refl _)]; rfl
     clear hI
     obtain ⟨b, hbz⟩ : ∃ b, decide (bs u = []) = b := ⟨_, rfl⟩
     have hz := HZ.out
     rw [hbz] at hz
     have e2 : Hid (R = !b) := by unfold Hid; rw [e1.out, <- hbz]; by_cases h : bs u = [] <;> simp [h]
     clear e1 HZ hbz
     go_wp2_with fail
     go_ret
     exact ⟨by rw [e2.out]; rfl, rfl⟩
  ·have hcut : (cutS (bs s)).2 = bs s := by
    rw [cutS_nosign (by rw [hb]; exact h) (by rw [hb]; exact h')]
   have t1 : (((s[0]'p0).toNat : Int) == 43) = false := by simp; omega
   have t2 : (((s[0]'p0).toNat : Int) == 45) = false := by simp; omega
   have s1 : (1 : Int) <= (s.size : Int) := by omega
   clear h h'
   have HNE := hid hne
   have HLu : Hid ((bs s).length = s.size) := bs_length s
   have HZ : Hid (s.toList.isEmpty = decide (bs s = [])) := by
    unfold Hid; rw [show s.toList.isEmpty = (s.toList == []) by cases s.toList <;> rfl, test_str]; rfl
   have HR : Hid (R = (decB ((bs s).drop 0) && decide (bs s ≠ []))) := by unfold Hid; rw [hR, hcut, digits_dec]; rfl
   clear hcs hb hne hl hR hcut
   go_enter Tryz.func69, Tryz.ntmps69
   go_wp2_with fail
   go_loopg [3] s.size (fun g v wx => ∃ j : Nat, v = .int .i64 j /\ j <= s.size /\ g = s.size - j /\ wx = w /\ Hid (R = (decB ((bs s).drop j) && decide (bs s ≠ []))))
   case atStart => exact ⟨0, rfl, Nat.zero_le _, rfl, rfl, HR.out⟩
   case round =>
    obtain ⟨j, rfl, hj, rfl, rfl, hI⟩ := hrel
    clear HR
    by_cases hlt : j < s.size
    ·have hbj := bs_get s j hlt
     have j0 : (0 : Int) <= (j : Int) := by omega
     have j1 : (j : Int) < (s.size : Int) := by omega
     by_cases d1 : 48 <= (s[j]'hlt).toNat
     ·have d1' : ¬ (((s[j]'hlt).toNat : Int) < 48) := by omega
      by_cases d2 : (s[j]'hlt).toNat <= 57
      ·have d2' : ¬ ((57 : Int) < ((s[j]'hlt).toNat : Int)) := by omega
       have e1 : Hid (R = (decB ((bs s).drop (j + 1)) && decide (bs s ≠ []))) := by unfold Hid; rw [hI.out, decB_go (by rw [HLu.out]; exact hlt) (by rw [hbj]; exact ⟨d1, d2⟩)]
       clear hI hbj
       go_wp2_with fail
       go_roundg (s.size - (j + 1))
       case measure => omega
       case rel => exact ⟨j + 1, by go_num, by omega, rfl, rfl, e1.out⟩
      ·have d2' : (57 : Int) < ((s[j]'hlt).toNat : Int) := by omega
       have e1 : Hid (R = false) := by unfold Hid; rw [hI.out, decB_stop (by rw [HLu.out]; exact hlt) (by rw [hbj]; omega)]; rfl
       clear hI hbj
       go_wp2_with fail
       go_ret
       exact ⟨by rw [e1.out]; rfl, rfl⟩
     ·have d1' : ((s[j]'hlt).toNat : Int) < 48 := by omega
      have e1 : Hid (R = false) := by unfold Hid; rw [hI.out, decB_stop (by rw [HLu.out]; exact hlt) (by rw [hbj]; omega)]; rfl
      clear hI hbj
      go_wp2_with fail
      go_ret
      exact ⟨by rw [e1.out]; rfl, rfl⟩
    ·obtain rfl : j = s.size := by omega
     have e1 : Hid (R = decide (bs s ≠ [])) := by unfold Hid; rw [hI.out, List.drop_eq_nil_of_le (by rw [HLu.out]; exact Nat.le_refl _)]; rfl
     clear hI
     obtain ⟨b, hbz⟩ : ∃ b, decide (bs s = []) = b := ⟨_, rfl⟩
     have hz := HZ.out
     rw [hbz] at hz
     have e2 : Hid (R = !b) := by unfold Hid; rw [e1.out, <- hbz]; by_cases h : bs s = [] <;> simp [h]
     obtain rfl : b = false := by rw [<- hbz]; exact decide_eq_false HNE.out
     clear e1 HZ hbz
     go_wp2_with fail
     go_ret
     exact ⟨by rw [e2.out]; rfl, rfl⟩
end Go.Proofs.YtbkfinjajkjhaaaGreatDoor
