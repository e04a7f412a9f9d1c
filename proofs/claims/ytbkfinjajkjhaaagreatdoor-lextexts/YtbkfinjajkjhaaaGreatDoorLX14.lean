import Derived.Test.YtbkfinjajkjhaaaGreatDoorLShelfC
import Derived.Lib.ConvBytes
set_option linter.unusedVariables false
set_option linter.unusedSimpArgs false
set_option maxRecDepth 100000
namespace Go.Proofs.YtbkfinjajkjhaaaGreatDoor
open Go.RowKit
theorem low_or : ∀ c : Fin 256, bits .or .u8 ((c.val : Nat) : Int) 32 = ((c.val ||| 32 : Nat) : Int) := by decide +kernel
theorem lower_any (c : Nat) (hc : c < 256) (w : World) : Calls Tryz.prog 162 #[.int .u8 (c : Int)] w fun e w' => e = .returned (.int .u8 ((c ||| 32 : Nat) : Int)) /\ w' = w := by
 have h := low_or ⟨c, hc⟩
 simp only at h
 obtain ⟨x, hx⟩ : ∃ x : Nat, x = c ||| 32 := ⟨_, rfl⟩
 rw [<- hx] at h ⊢
 clear hx
 go_enter Tryz.func162, Tryz.ntmps162
 go_wp2
 go_ret
 exact ⟨rfl, rfl⟩
theorem low_dgt : ∀ c : Fin 256, ¬ (48 <= c.val /\ c.val <= 57) -> (97 <= (c.val ||| 32) /\ (c.val ||| 32) <= 122 -> dgt c.val + 87 = (c.val ||| 32)) /\ (¬ (97 <= (c.val ||| 32) /\ (c.val ||| 32) <= 122) -> dgt c.val = 36) := by decide +kernel
theorem validRune_any (c : Nat) (w : World) : Calls Tryz.prog 46 #[.int .i32 (c : Int)] w fun e w' => e = .returned (.bool (letB (c : Int))) /\ w' = w := by
 have key : letB (c : Int) = (decide (c < 55296) || (decide (57343 < c) && decide (c <= 1114111))) := by
  unfold letB; rw [Bool.eq_iff_iff]; simp; omega
 rw [key]
 clear key
 rcases (by omega : c < 55296 \/ (55296 <= c /\ c <= 57343) \/ (57343 < c /\ c <= 1114111) \/ 1114111 < c) with h | h | h | h
 ·have q0 : (0 : Int) <= (c : Int) := by omega
  have q1 : (c : Int) < 55296 := by omega
  rw [decide_eq_true h, Bool.true_or]
  clear h
  go_enter Tryz.func46, Tryz.ntmps46
  go_wp2
  go_ret
  exact ⟨rfl, rfl⟩
 ·have q0 : (0 : Int) <= (c : Int) := by omega
  have q1 : ¬ (c : Int) < 55296 := by omega
  have q2 : ¬ (57343 : Int) < (c : Int) := by omega
  rw [decide_eq_false (by omega), decide_eq_false (show ¬ 57343 < c by omega), Bool.false_and, Bool.or_false]
  clear h
  go_enter Tryz.func46, Tryz.ntmps46
  go_wp2
  go_ret
  exact ⟨rfl, rfl⟩
 ·have q0 : (0 : Int) <= (c : Int) := by omega
  have q1 : ¬ (c : Int) < 55296 := by omega
  have q2 : (57343 : Int) < (c : Int) := by omega
  have q3 : (c : Int) <= 1114111 := by omega
  rw [decide_eq_false (by omega), decide_eq_true h.1, decide_eq_true h.2]
  clear h
  go_enter Tryz.func46, Tryz.ntmps46
  go_wp2
  go_ret
  exact ⟨rfl, rfl⟩
 ·have q0 : (0 : Int) <= (c : Int) := by omega
  have q1 : ¬ (c : Int) < 55296 := by omega
  have q2 : (57343 : Int) < (c : Int) := by omega
  have q3 : ¬ (c : Int) <= 1114111 := by omega
  rw [decide_eq_false (by omega), decide_eq_false (show ¬ c <= 1114111 by omega), Bool.and_false, Bool.or_false]
  clear h
  go_enter Tryz.func46, Tryz.ntmps46
  go_wp2
  go_ret
  exact ⟨rfl, rfl⟩
def hxF : List Nat -> Nat -> Option Nat
 | [], a => some a
 | c :: r, a => if dgt c < 16 then hxF r (a * 16 + dgt c) else none
theorem hxF_is : ∀ (l : List Nat) (a : Nat), hxF l a = if l.all (fun c => decide ((dgt c : Int) < 16)) then some (l.foldl (fun a c => a * 16 + dgt c) a) else none
 | [], a => rfl
 | c :: l, a => by
  unfold hxF
  rw [hxF_is l]
  by_cases h : dgt c < 16
  ·rw [if_pos h, List.all_cons, decide_eq_true (by omega), Bool.true_and]; rfl
  ·rw [if_neg h, List.all_cons, decide_eq_false (by omega), Bool.false_and]; rfl
theorem hxF_go {l : List Nat} {k a : Nat} (h : k < l.length) : hxF (l.drop k) a = if dgt (l.getD k 0) < 16 then hxF (l.drop (k + 1)) (a * 16 + dgt (l.getD k 0)) else none := by
 rw [dropN_cons h]; rfl
def hexErr : Value := .iface 151 (.int .i64 2)
set_option maxHeartbeats 32000000 in
theorem parseUint_in (s : ByteArray) (w : World) (hs : s.size <= 6) : Calls Tryz.prog 158 #[.string s, .int .i64 16, .int .i64 32] w fun e w' => Below w.heap.size w w' /\
  ((s.size = 0 \/ hxF (bs s) 0 = none) -> ∃ v, e = .returned (.tuple #[.int .u64 v, hexErr])) /\ (s.size ≠ 0 -> ∀ v, hxF (bs s) 0 = some v -> e = .returned (.tuple #[.int .u64 (v : Nat), .nilIface])) := by
 have hl := bs_length s
 by_cases h0 : s.size = 0
 ·have e2 : s = ⟨#[]⟩ := bs_ext (by rw [List.length_eq_zero_iff.1 (by omega : (bs s).length = 0)]; rfl)
  subst e2
  clear hl
  go_enter Tryz.func158, Tryz.ntmps158
  go_wp2
  go_ret2
  exact ⟨Below.refl _ _, fun _ => ⟨_, rfl⟩, fun h => absurd rfl h⟩
 ·have hemp : s.toList.isEmpty = false := by
   rw [show s.toList.isEmpty = (s.toList == []) by cases s.toList <;> rfl, test_str]
   exact decide_eq_false (fun e => by have e : bs s = [] := e; rw [e] at hl; simp at hl; omega)
  have hcv := Lib.run_convert_string_bytes (P := Tryz.prog) w 9 22 5 s (u := .string) Tryz.underlying9 Tryz.underlying22 Tryz.underlying5
  have HB : Hid (∀ j, j < s.size -> (Lib.bytesWorld w 5 s).cell? ⟨w.heap.size, j, none⟩ = some (.int .u8 ((bs s).getD j 0 : Nat))) := fun j hj => by
   rw [Lib.bytesWorld_cell w 5 s j hj, bs_get s j hj]
   have : s.data.toList.getD j 0 = s[j]'hj := by rw [List.getD_eq_getElem?_getD, List.getElem?_eq_getElem (show j < s.data.toList.length from hj)]; rfl
   rw [this]
  have HBel : Hid (Below w.heap.size w (Lib.bytesWorld w 5 s)) := Go.Joins.below_bytesWorld _ _ _ _ (Nat.le_refl _)
  obtain ⟨W1, hW1⟩ : ∃ W1, W1 = Lib.bytesWorld w 5 s := ⟨_, rfl⟩
  rw [<- hW1] at hcv HB HBel
  clear hW1
  obtain ⟨R, hR⟩ : ∃ R, R = hxF (bs s) 0 := ⟨_, rfl⟩
  rw [<- hR]
  have HP : Hid (∀ (e : Ending) (w' : World), Below w.heap.size w w' -> (R = none -> ∃ v, e = .returned (.tuple #[.int .u64 v, hexErr])) -> (∀ v, R = some v -> e = .returned (.tuple #[.int .u64 (v : Nat), .nilIface])) -> Below w.heap.size w w' /\
    ((s.size = 0 \/ R = none) -> ∃ v, e = .returned (.tuple #[.int .u64 v, hexErr])) /\ (s.size ≠ 0 -> ∀ v, R = some v -> e = .returned (.tuple #[.int .u64 (v : Nat), .nilIface]))) := fun e w' h1 h2 h3 => ⟨h1, fun h => h2 (h.resolve_left h0), fun _ => h3⟩
  have HL := hid hl
  have HD : Hid (Dg 256 (bs s)) := bs_lt s
  have HR0 : Hid (R = hxF ((bs s).drop 0) 0 /\ (0 : Nat) < 16 ^ 0) := ⟨hR, by decide⟩
  have CL := hid lower_any
  have hmv : IntKind.u64.wrap (IntKind.u64.wrap 4294967296 - 1) = 4294967295 := by rw [IntKind.wrap_u64, IntKind.wrap_u64]; decide
  clear hl hR
  refine Calls.mono (R := fun (e : Ending) (w' : World) => Below w.heap.size w w' /\ (R = none -> ∃ v, e = .returned (.tuple #[.int .u64 v, hexErr])) /\ (∀ v, R = some v -> e = .returned (.tuple #[.int .u64 (v : Nat), .nilIface]))) ?_ (fun e w' h => HP.out e w' h.1 h.2.1 h.2.2)
  unfold hexErr
  go_enter Tryz.func158, Tryz.ntmps158
  go_wp2_with fail
  go_loopg [12, 13, 101] s.size (fun g vu vn vi wx => ∃ (k acc : Nat) (a : Int), vu = .bool false /\ vn = .int .u64 a /\ vi = .int .i64 k /\ k <= s.size /\ g = s.size - k /\ wx = W1 /\ Hid (a = (acc : Int) /\ R = hxF ((bs s).drop k) acc /\ acc < 16 ^ k))
  case atStart => exact ⟨0, 0, 0, rfl, rfl, rfl, Nat.zero_le _, rfl, rfl, rfl, HR0.out.1, HR0.out.2⟩
  case round =>
   obtain ⟨k, acc, a, rfl, rfl, rfl, hk, rfl, rfl, hh⟩ := hrel
   obtain ⟨ha, hI, hacc⟩ := hh.out
   clear hh HR0
   have hk6 : 16 ^ k <= 16 ^ 6 := Nat.pow_le_pow_right (by omega) (by omega)
   have h166 : (16 : Nat) ^ 6 = 16777216 := by decide
   have a0 : 0 <= a := by omega
   have a1 : a < 16777216 := by omega
   have HI := hid hI
   have HA := hid ha
   have HAC := hid hacc
   clear hI ha hacc hk6 h166
   by_cases hlt : k < s.size
   ·have hc := HB.out k hlt
    have hgo := hxF_go (l := bs s) (k := k) (a := acc) (by rw [HL.out]; exact hlt)
    obtain ⟨x, hx⟩ : ∃ x, x = (bs s).getD k 0 := ⟨_, rfl⟩
    have hx256 : x < 256 := by rw [hx, List.getD_eq_getElem?_getD, List.getElem?_eq_getElem (by rw [HL.out]; exact hlt)]; exact HD.out _ (List.getElem_mem _)
    rw [<- hx] at hc hgo
    have k1 : (k : Int) < (s.size : Int) := by omega
    have HG : Hid (R = if dgt x < 16 then hxF ((bs s).drop (k + 1)) (acc * 16 + dgt x) else none) := HI.out.trans hgo
    have hld := low_dgt ⟨x, hx256⟩
    simp only at hld
    clear hx hgo HI
    obtain ⟨b95, h95⟩ : ∃ b, ((x : Int) == 95) = b := ⟨_, rfl⟩
    by_cases hd : 48 <= x /\ x <= 57
    ·obtain ⟨d0, d1⟩ := hd
     have d0' : (48 : Int) <= (x : Int) := by omega
     have d1' : (x : Int) <= 57 := by omega
     have h95' : ((x : Int) == 95) = false := by simp; omega
     have hdg : dgt x = x - 48 := by unfold dgt; rw [if_pos ⟨d0, d1⟩]
     have HN : Hid (a * 16 + ((x : Int) - 48) = ((acc * 16 + dgt x : Nat) : Int) /\ R = hxF ((bs s).drop (k + 1)) (acc * 16 + dgt x) /\ acc * 16 + dgt x < 16 ^ (k + 1)) := by
      refine ⟨by rw [hdg]; have := HA.out; omega, HG.out.trans (if_pos (by omega)), ?_⟩
      have := HAC.out
      rw [Nat.pow_succ]; omega
     clear h95 hld HG hdg
     go_wp2_with fail
     go_roundg (s.size - (k + 1))
     case measure => omega
     case rel => exact ⟨k + 1, acc * 16 + dgt x, a * 16 + ((x : Int) - 48), rfl, rfl, by go_num, by omega, rfl, rfl, HN.out⟩
    ·have hld := hld hd
     have CX := hid (fun W => CL.out x hx256 W)
     obtain ⟨y, hy⟩ : ∃ y, y = x ||| 32 := ⟨_, rfl⟩
     rw [<- hy] at CX hld
     have hdi : ¬ ((48 : Int) <= (x : Int) /\ (x : Int) <= 57) := by omega
     clear hy hd
     by_cases hy : 97 <= y /\ y <= 122
     ·have hdg := hld.1 hy
      have y0 : (97 : Int) <= (y : Int) := by omega
      have y1 : (y : Int) <= 122 := by omega
      by_cases h16 : dgt x < 16
      ·have HN : Hid (a * 16 + ((y : Int) - 97 + 10) = ((acc * 16 + dgt x : Nat) : Int) /\ R = hxF ((bs s).drop (k + 1)) (acc * 16 + dgt x) /\ acc * 16 + dgt x < 16 ^ (k + 1)) := by
        refine ⟨by have := HA.out; omega, HG.out.trans (if_pos h16), ?_⟩
        have := HAC.out
        rw [Nat.pow_succ]; omega
       have y2 : ¬ (16 : Int) <= (y : Int) - 97 + 10 := by omega
       clear hld HG hdg h16 hy
       by_cases d0 : (48 : Int) <= (x : Int)
       ·have d1 : ¬ (x : Int) <= 57 := fun h => hdi ⟨d0, h⟩
        clear hdi
        cases b95
        all_goals
         go_wp2_with (go_at_call 162; with_reducible refine (CX.out _).mono ?_; rintro e wb ⟨rfl, rfl⟩)
         go_roundg (s.size - (k + 1))
         case measure => omega
         case rel => exact ⟨k + 1, acc * 16 + dgt x, a * 16 + ((y : Int) - 97 + 10), rfl, rfl, by go_num, by omega, rfl, rfl, HN.out⟩
       ·clear hdi
        cases b95
        all_goals
         go_wp2_with (go_at_call 162; with_reducible refine (CX.out _).mono ?_; rintro e wb ⟨rfl, rfl⟩)
         go_roundg (s.size - (k + 1))
         case measure => omega
         case rel => exact ⟨k + 1, acc * 16 + dgt x, a * 16 + ((y : Int) - 97 + 10), rfl, rfl, by go_num, by omega, rfl, rfl, HN.out⟩
      ·have HN : Hid (R = none) := HG.out.trans (if_neg h16)
       have y2 : (16 : Int) <= (y : Int) - 97 + 10 := by omega
       clear hld HG hdg h16 hy HA HAC
       by_cases d0 : (48 : Int) <= (x : Int)
       ·have d1 : ¬ (x : Int) <= 57 := fun h => hdi ⟨d0, h⟩
        clear hdi
        cases b95
        all_goals
         go_wp2_with (go_at_call 162; with_reducible refine (CX.out _).mono ?_; rintro e wb ⟨rfl, rfl⟩)
         go_ret2
         exact ⟨HBel.out, fun _ => ⟨_, rfl⟩, fun v hv => by rw [HN.out] at hv; cases hv⟩
       ·clear hdi
        cases b95
        all_goals
         go_wp2_with (go_at_call 162; with_reducible refine (CX.out _).mono ?_; rintro e wb ⟨rfl, rfl⟩)
         go_ret2
         exact ⟨HBel.out, fun _ => ⟨_, rfl⟩, fun v hv => by rw [HN.out] at hv; cases hv⟩
     ·have hdg := hld.2 hy
      have HN : Hid (R = none) := HG.out.trans (if_neg (by omega))
      have y2 : ¬ ((97 : Int) <= (y : Int) /\ (y : Int) <= 122) := by omega
      clear hld HG hdg hy HA HAC
      obtain ⟨q1, hq1⟩ : ∃ b, decide ((97 : Int) <= (y : Int)) = b := ⟨_, rfl⟩
      by_cases y0 : (97 : Int) <= (y : Int)
      ·have y1 : ¬ (y : Int) <= 122 := fun h => y2 ⟨y0, h⟩
       clear y2 hq1
       by_cases d0 : (48 : Int) <= (x : Int)
       ·have d1 : ¬ (x : Int) <= 57 := fun h => hdi ⟨d0, h⟩
        clear hdi
        cases b95
        all_goals
         go_wp2_with (go_at_call 162; with_reducible refine (CX.out _).mono ?_; rintro e wb ⟨rfl, rfl⟩)
         go_ret2
         exact ⟨HBel.out, fun _ => ⟨_, rfl⟩, fun v hv => by rw [HN.out] at hv; cases hv⟩
       ·clear hdi
        cases b95
        all_goals
         go_wp2_with (go_at_call 162; with_reducible refine (CX.out _).mono ?_; rintro e wb ⟨rfl, rfl⟩)
         go_ret2
         exact ⟨HBel.out, fun _ => ⟨_, rfl⟩, fun v hv => by rw [HN.out] at hv; cases hv⟩
      ·clear y2 hq1
       by_cases d0 : (48 : Int) <= (x : Int)
       ·have d1 : ¬ (x : Int) <= 57 := fun h => hdi ⟨d0, h⟩
        clear hdi
        cases b95
        all_goals
         go_wp2_with (go_at_call 162; with_reducible refine (CX.out _).mono ?_; rintro e wb ⟨rfl, rfl⟩)
         go_ret2
         exact ⟨HBel.out, fun _ => ⟨_, rfl⟩, fun v hv => by rw [HN.out] at hv; cases hv⟩
       ·clear hdi
        cases b95
        all_goals
         go_wp2_with (go_at_call 162; with_reducible refine (CX.out _).mono ?_; rintro e wb ⟨rfl, rfl⟩)
         go_ret2
         exact ⟨HBel.out, fun _ => ⟨_, rfl⟩, fun v hv => by rw [HN.out] at hv; cases hv⟩
   ·obtain rfl : k = s.size := by omega
    have HN : Hid (R = some acc) := by
     unfold Hid; rw [HI.out, List.drop_eq_nil_of_le (by rw [HL.out]; exact Nat.le_refl _)]; rfl
    have HA2 := hid HA.out
    clear HI HA HAC
    go_wp2_with fail
    go_ret2
    exact ⟨HBel.out, fun h => (by rw [HN.out] at h; cases h), fun v hv => (by rw [HN.out] at hv; cases hv; rw [HA2.out]; rfl)⟩
end Go.Proofs.YtbkfinjajkjhaaaGreatDoor
