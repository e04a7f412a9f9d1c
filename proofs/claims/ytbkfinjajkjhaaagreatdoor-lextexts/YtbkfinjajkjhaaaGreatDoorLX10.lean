import Derived.Test.YtbkfinjajkjhaaaGreatDoorLX9
set_option linter.unusedVariables false
set_option linter.unusedSimpArgs false
set_option maxRecDepth 100000
namespace Go.Proofs.YtbkfinjajkjhaaaGreatDoor
open Go.RowKit
def digB (c : Nat) : Bool := decide (48 <= c) && decide (c <= 57)
theorem isDigit_any (c : Nat) (w : World) : Calls Tryz.prog 83 #[.int .u8 (c : Int)] w fun e w' => e = .returned (.bool (digB c)) /\ w' = w := by
 by_cases h1 : 48 <= c
 ·have h1' : (48 : Int) <= (c : Int) := by omega
  by_cases h2 : c <= 57
  ·have h2' : (c : Int) <= 57 := by omega
   rw [show digB c = true by unfold digB; rw [decide_eq_true h1, decide_eq_true h2]; rfl]
   clear h1 h2
   go_enter Tryz.func83, Tryz.ntmps83
   go_wp2
   go_ret
   exact ⟨rfl, rfl⟩
  ·have h2' : ¬ (c : Int) <= 57 := by omega
   rw [show digB c = false by unfold digB; rw [decide_eq_false h2, Bool.and_false]]
   clear h1 h2
   go_enter Tryz.func83, Tryz.ntmps83
   go_wp2
   go_ret
   exact ⟨rfl, rfl⟩
 ·have h1' : ¬ (48 : Int) <= (c : Int) := by omega
  rw [show digB c = false by unfold digB; rw [decide_eq_false h1]; rfl]
  clear h1
  go_enter Tryz.func83, Tryz.ntmps83
  go_wp2
  go_ret
  exact ⟨rfl, rfl⟩
set_option maxHeartbeats 4000000 in
theorem inNames_any (c : Nat) (w : World) : Calls Tryz.prog 113 #[.int .i32 (c : Int)] w fun e w' => e = .returned (.bool (mayB c)) /\ w' = w := by
 by_cases h : (97 <= c /\ c <= 122) \/ (65 <= c /\ c <= 90) \/ (48 <= c /\ c <= 57) \/ 128 <= c
 ·rw [mayB_plain h]
  rcases h with h | h | h | h
  ·have q0 : (97 : Int) <= (c : Int) := by omega
   have q1 : (c : Int) <= 122 := by omega
   have q2 : (65 : Int) <= (c : Int) := by omega
   have q3 : ¬ ((c : Int) <= 90) := by omega
   have q4 : (48 : Int) <= (c : Int) := by omega
   have q5 : ¬ ((c : Int) <= 57) := by omega
   have q6 : ¬ ((127 : Int) < (c : Int)) := by omega
   clear h
   go_enter Tryz.func113, Tryz.ntmps113
   go_wp2
   go_ret
   exact ⟨rfl, rfl⟩
  ·have q0 : ¬ ((97 : Int) <= (c : Int)) := by omega
   have q1 : (c : Int) <= 122 := by omega
   have q2 : (65 : Int) <= (c : Int) := by omega
   have q3 : (c : Int) <= 90 := by omega
   have q4 : (48 : Int) <= (c : Int) := by omega
   have q5 : ¬ ((c : Int) <= 57) := by omega
   have q6 : ¬ ((127 : Int) < (c : Int)) := by omega
   clear h
   go_enter Tryz.func113, Tryz.ntmps113
   go_wp2
   go_ret
   exact ⟨rfl, rfl⟩
  ·have q0 : ¬ ((97 : Int) <= (c : Int)) := by omega
   have q1 : (c : Int) <= 122 := by omega
   have q2 : ¬ ((65 : Int) <= (c : Int)) := by omega
   have q3 : (c : Int) <= 90 := by omega
   have q4 : (48 : Int) <= (c : Int) := by omega
   have q5 : (c : Int) <= 57 := by omega
   have q6 : ¬ ((127 : Int) < (c : Int)) := by omega
   clear h
   go_enter Tryz.func113, Tryz.ntmps113
   go_wp2
   go_ret
   exact ⟨rfl, rfl⟩
  ·have q0 : (97 : Int) <= (c : Int) := by omega
   have q1 : ¬ ((c : Int) <= 122) := by omega
   have q2 : (65 : Int) <= (c : Int) := by omega
   have q3 : ¬ ((c : Int) <= 90) := by omega
   have q4 : (48 : Int) <= (c : Int) := by omega
   have q5 : ¬ ((c : Int) <= 57) := by omega
   have q6 : (127 : Int) < (c : Int) := by omega
   clear h
   go_enter Tryz.func113, Tryz.ntmps113
   go_wp2
   go_ret
   exact ⟨rfl, rfl⟩
 ·by_cases hs : c ∈ mayL
  ·rw [mayB_sign h, show mayL.contains c = true by simpa using hs]
   clear h
   simp only [mayL, List.mem_cons, List.not_mem_nil, or_false] at hs
   rcases hs with rfl | rfl | rfl | rfl | rfl | rfl | rfl | rfl | rfl | rfl | rfl | rfl | rfl | rfl | rfl | rfl | rfl | rfl
   all_goals
    go_enter Tryz.func113, Tryz.ntmps113
    go_wp2
    go_ret
    exact ⟨rfl, rfl⟩
  ·rw [mayB_sign h, show mayL.contains c = false by simpa using hs]
   simp only [mayL, List.mem_cons, List.not_mem_nil, or_false, not_or] at hs
   obtain ⟨s33, s36, s37, s38, s42, s47, s58, s60, s61, s62, s63, s94, s95, s126, s43, s45, s46, s64⟩ := hs
   have t33 : ((c : Int) == 33) = false := by simp; omega
   have t36 : ((c : Int) == 36) = false := by simp; omega
   have t37 : ((c : Int) == 37) = false := by simp; omega
   have t38 : ((c : Int) == 38) = false := by simp; omega
   have t42 : ((c : Int) == 42) = false := by simp; omega
   have t47 : ((c : Int) == 47) = false := by simp; omega
   have t58 : ((c : Int) == 58) = false := by simp; omega
   have t60 : ((c : Int) == 60) = false := by simp; omega
   have t61 : ((c : Int) == 61) = false := by simp; omega
   have t62 : ((c : Int) == 62) = false := by simp; omega
   have t63 : ((c : Int) == 63) = false := by simp; omega
   have t94 : ((c : Int) == 94) = false := by simp; omega
   have t95 : ((c : Int) == 95) = false := by simp; omega
   have t126 : ((c : Int) == 126) = false := by simp; omega
   have t43 : ((c : Int) == 43) = false := by simp; omega
   have t45 : ((c : Int) == 45) = false := by simp; omega
   have t46 : ((c : Int) == 46) = false := by simp; omega
   have t64 : ((c : Int) == 64) = false := by simp; omega
   clear s33 s36 s37 s38 s42 s47 s58 s60 s61 s62 s63 s94 s95 s126 s43 s45 s46 s64
   rcases (by omega : c < 48 \/ (58 <= c /\ c < 65) \/ (91 <= c /\ c < 97) \/ (123 <= c /\ c < 128)) with h' | h' | h' | h'
   ·have q0 : ¬ ((97 : Int) <= (c : Int)) := by omega
    have q1 : (c : Int) <= 122 := by omega
    have q2 : ¬ ((65 : Int) <= (c : Int)) := by omega
    have q3 : (c : Int) <= 90 := by omega
    have q4 : ¬ ((48 : Int) <= (c : Int)) := by omega
    have q5 : (c : Int) <= 57 := by omega
    have q6 : ¬ ((127 : Int) < (c : Int)) := by omega
    clear h h'
    go_enter Tryz.func113, Tryz.ntmps113
    go_wp2
    go_ret
    exact ⟨rfl, rfl⟩
   ·have q0 : ¬ ((97 : Int) <= (c : Int)) := by omega
    have q1 : (c : Int) <= 122 := by omega
    have q2 : ¬ ((65 : Int) <= (c : Int)) := by omega
    have q3 : (c : Int) <= 90 := by omega
    have q4 : (48 : Int) <= (c : Int) := by omega
    have q5 : ¬ ((c : Int) <= 57) := by omega
    have q6 : ¬ ((127 : Int) < (c : Int)) := by omega
    clear h h'
    go_enter Tryz.func113, Tryz.ntmps113
    go_wp2
    go_ret
    exact ⟨rfl, rfl⟩
   ·have q0 : ¬ ((97 : Int) <= (c : Int)) := by omega
    have q1 : (c : Int) <= 122 := by omega
    have q2 : (65 : Int) <= (c : Int) := by omega
    have q3 : ¬ ((c : Int) <= 90) := by omega
    have q4 : (48 : Int) <= (c : Int) := by omega
    have q5 : ¬ ((c : Int) <= 57) := by omega
    have q6 : ¬ ((127 : Int) < (c : Int)) := by omega
    clear h h'
    go_enter Tryz.func113, Tryz.ntmps113
    go_wp2
    go_ret
    exact ⟨rfl, rfl⟩
   ·have q0 : (97 : Int) <= (c : Int) := by omega
    have q1 : ¬ ((c : Int) <= 122) := by omega
    have q2 : (65 : Int) <= (c : Int) := by omega
    have q3 : ¬ ((c : Int) <= 90) := by omega
    have q4 : (48 : Int) <= (c : Int) := by omega
    have q5 : ¬ ((c : Int) <= 57) := by omega
    have q6 : ¬ ((127 : Int) < (c : Int)) := by omega
    clear h h'
    go_enter Tryz.func113, Tryz.ntmps113
    go_wp2
    go_ret
    exact ⟨rfl, rfl⟩
theorem mayN_skip : ∀ (k : Nat) (l : List Nat), k <= l.length -> (∀ j, j < k -> 128 <= l.getD j 0) -> l.all mayB = (l.drop k).all mayB
 | 0, l, _, _ => by simp
 | k + 1, l, h, hj => by
  have := all_go (f := mayB) (l := l) (k := 0) (by omega) (mayB_plain (.inr (.inr (.inr (hj 0 (by omega))))))
  rw [List.drop_zero, Nat.zero_add] at this
  rw [this, mayN_skip k (l.drop 1) (by rw [List.length_drop]; omega) (fun j hjk => by
   have := hj (1 + j) (by omega)
   rw [List.getD_eq_getElem?_getD] at this
   rw [List.getD_eq_getElem?_getD, List.getElem?_drop]; exact this), List.drop_drop, Nat.add_comm 1 k]
theorem decode_drop (s : ByteArray) (p : Nat) : Utf8.decode s p = decN ((bs s).drop p) := by
 have h : Utf8.decode (bstr ((bs s).drop p)) 0 = Utf8.decode s p := by
  unfold bstr
  rw [map_back]
  exact Lib.decodeL_drop s p
 rw [<- h, decN_is ((bs_lt s).drop p)]
set_option maxHeartbeats 4000000 in
theorem isName_any (s : ByteArray) (w : World) (hs : s.size <= 1000000) : Calls Tryz.prog 89 #[.string s] w fun e w' => e = .returned (.bool ((bs s).all mayB)) /\ Below w.heap.size w w' := by
 have hl := bs_length s
 have HL := hid hl
 have CN := hid inNames_any
 obtain ⟨A, hA⟩ : ∃ A, A = (bs s).all mayB := ⟨_, rfl⟩
 rw [<- hA]
 have HA : Hid (A = ((bs s).drop 0).all mayB) := hA
 clear hA hl
 go_enter Tryz.func89, Tryz.ntmps89
 go_wp2_with fail
 go_loopg [4] s.size (fun g v wx => ∃ p : Nat, p <= s.size /\ g = s.size - p /\ wx = w.iter s p /\ Hid (A = ((bs s).drop p).all mayB))
 case atStart => exact ⟨0, Nat.zero_le _, rfl, rfl, HA.out⟩
 case round =>
  obtain ⟨p, hp, rfl, rfl, hI⟩ := hrel
  clear HA
  by_cases hlt : p < s.size
  ·have hit : (w.iter s p).heap[w.heap.size]? = some (.stringIter s p) := World.iter_heap w s p
   have hnx := fun ty => Lib.run_next_any_at (P := Tryz.prog) (w.iter s p) w.heap.size s p ty hit hlt
   have hne : (bs s).drop p ≠ [] := by intro e; have := congrArg List.length e; rw [List.length_drop, HL.out] at this; simp at this; omega
   have hle := decN_le hne
   rw [List.length_drop, HL.out] at hle
   have hbit : A = (mayB (decN ((bs s).drop p)).1 && ((bs s).drop (p + (decN ((bs s).drop p)).2)).all mayB) := by
    rw [hI.out]
    by_cases h128 : 128 <= ((bs s).drop p).getD 0 0
    ·obtain ⟨h1, _, _, _, h5, h6⟩ := decN_high hne h128
     rw [mayN_skip _ _ h5 h6, List.drop_drop, mayB_plain (.inr (.inr (.inr h1))), Bool.true_and]
    ·rw [decN_low (by omega)]
     have : ((bs s).drop p).getD 0 0 = (bs s).getD p 0 := by rw [dropN_cons (by rw [HL.out]; exact hlt)]; rfl
     rw [this]
     conv => lhs; rw [dropN_cons (show p < (bs s).length by rw [HL.out]; exact hlt), List.all_cons]
   have hwi : (w.iter s p).iterAt w.heap.size s (p + (decN ((bs s).drop p)).2) = w.iter s (p + (decN ((bs s).drop p)).2) := by
    have := World.iter_set w s p (p + (decN ((bs s).drop p)).2)
    simpa [World.iterAt] using this
   rw [decode_drop, hwi] at hnx
   obtain ⟨r, hr⟩ : ∃ r, r = decN ((bs s).drop p) := ⟨_, rfl⟩
   rw [<- hr] at hnx hbit hle
   clear hwi hit hne hI hr
   have C9 := hid (fun W => CN.out r.1 W)
   obtain ⟨b, hb⟩ : ∃ b, b = mayB r.1 := ⟨_, rfl⟩
   rw [<- hb] at C9 hbit
   have HB := hid hbit
   clear hb hbit
   cases b
   ·have e1 : Hid (A = false) := HB.out
    clear HB
    go_wp2_with (go_at_call 113; with_reducible refine (C9.out _).mono ?_; rintro e wb ⟨rfl, rfl⟩)
    go_ret
    exact ⟨by rw [e1.out]; rfl, Ba w _⟩
   ·have e1 : Hid (A = ((bs s).drop (p + r.2)).all mayB) := HB.out.trans (Bool.true_and _)
    clear HB
    go_wp2_with (go_at_call 113; with_reducible refine (C9.out _).mono ?_; rintro e wb ⟨rfl, rfl⟩)
    go_roundg (s.size - (p + r.2))
    case measure => omega
    case rel => exact ⟨p + r.2, by omega, rfl, rfl, e1.out⟩
  ·have hnx := fun ty => run_next_end (P := Tryz.prog) w s p ty hlt
   have e1 : Hid (A = true) := by unfold Hid; rw [hI.out, List.drop_eq_nil_of_le (by rw [HL.out]; omega)]; rfl
   clear hI
   go_wp2_with fail
   go_ret
   exact ⟨by rw [e1.out]; rfl, Ba w _⟩
end Go.Proofs.YtbkfinjajkjhaaaGreatDoor
