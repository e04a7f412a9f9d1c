import Derived.Test.YtdekkieajffblaaGreatDoorG5
import Derived.Test.YtdekkieajffblaaGreatDoorSG2
import Derived.Deep.AppendLies
import Derived.Test.YtdekkieajffblaaGreatDoorV2
set_option linter.unusedVariables false
set_option linter.unusedSimpArgs false
namespace Go.Proofs.YtdekkieajffblaaGreatDoor
open Go.RowKit
section
variable {os : List Ob}
def bigEq (os : List Ob) (i k : Nat) : Bool := decide ((os.getD i default).kind = 5) && (decide ((os.getD k default).kind = 5) && (decide ((os.getD i default).f = (os.getD k default).f) && bigB (os.getD i default).f))
def sameIB (os : List Ob) (x y : Int) : Bool := match findM os x, findM os y with | some i, some k => bigEq os i k | _, _ => false
def eqvB (os : List Ob) (x y : Int) : Bool := decide (x = y) || sameIB os x y
end
set_option maxRecDepth 100000
def iz (l : List Int) : List Value := l.map (Value.int .i64)
theorem iz_length (l : List Int) : (iz l).length = l.length := by simp [iz]
theorem iz_append (l r : List Int) : iz (l ++ r) = iz l ++ iz r := by simp [iz]
theorem info_iz : (Tryz.prog.info? 3).map (fun i => (i.zero, i.size, i.bytes)) = some (some (.int .i64 0), 1, 8) := by kernel_rfl
theorem appi {P : Program} {w : World} {ops : Array Oper} {rest : List Oper} {o : Oper} {a : Act} {Q : Exit -> Act -> World -> Prop} (hgd : o.guard = none) (s x : Operand) (t : TypeId) (ho : o.op = .call { callee := .builtin .append, args := #[s, x], argTypes := #[t, t] })
  (base : Nat) (e : TypeId) (ht : P.underlying t = some (.slice e)) (hi : (P.info? e).map (fun i => (i.zero, i.size, i.bytes)) = some (some (.int .i64 0), 1, 8))
  (v : Value) (n : Nat) (l : List Int) (hs : a.eval s = v) (hown : w.ownsRow base e 1 v n (iz l))
  (ad : Addr) (c : Nat) (d : Int) (hx : a.eval x = .slice (some ad) 1 c) (hd : w.cell? ad = some (.int .i64 d)) (hsm : n <= 10000000) (hbase : base <= w.heap.size)
  (h : ∀ g cap w', w'.ownsRow base e 1 (.slice (some ⟨g, 0, none⟩) (n + 1) cap) (n + 1) (iz (l ++ [d])) -> w.grownBy w' v.ownBlock -> (v.ownBlock = some g \/ g = w.heap.size) -> g < w'.heap.size -> wpList P ops Q rest (a.put o.dst (.slice (some ⟨g, 0, none⟩) (n + 1) cap)) w') :
  wpList P ops Q (o :: rest) a w := by
 obtain ⟨i0, hi0, hz0, hz1, hz2⟩ : ∃ i0, P.info? e = some i0 /\ i0.zero = some (.int .i64 0) /\ i0.size = 1 /\ i0.bytes = 8 := by
  cases h : P.info? e with
  | none => rw [h] at hi; cases hi
  | some i => rw [h] at hi; simp at hi; exact ⟨i, rfl, hi.1, hi.2.1, hi.2.2⟩
 refine wpList_append_lies w hgd s x t ho base e i0 (.int .i64 0) 1 8 ht hi0 hz0 hz1 hz2 rfl (by decide) v n (iz l) hs hown ad 1 c [.int .i64 d] hx rfl ?_ ?_ (by decide) (by unfold maxLen; omega) (by omega) hbase w.heap.size rfl ?_
 ·intro j u hj
  match j, hj with
  | 0, hj => simp at hj; subst hj; simpa [Addr.add] using hd
 ·intro u hu; simp at hu; subst hu; rfl
 ·intro g cap w' h1 h2 h3 h4
  refine h g cap w' ?_ h2 h3 h4
  rw [iz_append]; exact h1
set_option maxHeartbeats 4000000
def isR (k x : Int) : Bool := decide ((ofR x).1 = k)
def hasR (k x : Int) : Int := if (ofR x).1 = k then (ofR x).2.1 else 0
def typR (x : Int) : Int := if (ofR x).1 = 8 then (ofR x).2.2 else 0
theorem tup_no {k n t : Int} (h : rightB k n t = false) : Ending.returned (.tuple #[.int .u64 0, .bool false]) = Ending.returned (.tuple #[.int .u64 (wordR k n t), .bool (rightB k n t)]) := by
 unfold wordR; rw [h]; rfl
theorem tup_yes {k n t x : Int} (h : rightB k n t = true) (hx : x = wrdB k n t) : Ending.returned (.tuple #[.int .u64 x, .bool true]) = Ending.returned (.tuple #[.int .u64 (wordR k n t), .bool (rightB k n t)]) := by
 unfold wordR; rw [h, hx]; rfl
theorem raw_not {x k : Int} (hk : k ≠ 0) (h : (ofRaw x).1 ≠ k) : (ofR x).1 ≠ k := by
 unfold ofR; split
 ·exact h
 ·exact fun e => hk e.symm
theorem raw_bad {x k : Int} (hk : k ≠ 0) (h : rightB (ofRaw x).1 (ofRaw x).2.1 (ofRaw x).2.2 = false) : (ofR x).1 ≠ k := by
 unfold ofR; rw [h]; exact fun e => hk e.symm
theorem raw_yes {x k n t : Int} (h : ofRaw x = (k, n, t)) (hr : rightB k n t = true) : ofR x = (k, n, t) := by
 unfold ofR; rw [h]; simp only [hr, if_true]
theorem tell_no {x k : Int} (h : (ofR x).1 ≠ k) : Ending.returned (.tuple #[.int .i64 0, .bool false]) = Ending.returned (.tuple #[.int .i64 (hasR k x), .bool (isR k x)]) := by
 unfold hasR isR; rw [if_neg h, decide_eq_false h]
theorem tell_yes {x k n t : Int} (h : ofR x = (k, n, t)) : Ending.returned (.tuple #[.int .i64 n, .bool true]) = Ending.returned (.tuple #[.int .i64 (hasR k x), .bool (isR k x)]) := by
 unfold hasR isR; rw [h]; simp
theorem tellh_no {x : Int} (h : (ofR x).1 ≠ 8) : Ending.returned (.tuple #[.int .i64 0, .int .i64 0, .bool false]) = Ending.returned (.tuple #[.int .i64 (typR x), .int .i64 (hasR 8 x), .bool (isR 8 x)]) := by
 unfold hasR isR typR; rw [if_neg h, if_neg h, decide_eq_false h]
theorem tellh_yes {x n t : Int} (h : ofR x = (8, n, t)) : Ending.returned (.tuple #[.int .i64 t, .int .i64 n, .bool true]) = Ending.returned (.tuple #[.int .i64 (typR x), .int .i64 (hasR 8 x), .bool (isR 8 x)]) := by
 unfold hasR isR typR; rw [h]; simp
theorem iscount_any (n : Int) (w : World) : Calls Tryz.prog 149 #[.int .i64 n] w fun e w' => e = .returned (.bool (decide (0 <= n) && decide (n <= 1073741824))) /\ w' = w := by
 by_cases h1 : 0 <= n <;> by_cases h2 : n <= 1073741824 <;>
 ·go_enter Tryz.func149, Tryz.ntmps149
  go_wp2
  go_ret
  exact ⟨by simp [h1, h2], rfl⟩
theorem fix_any (n : Int) (hn : Z64 n) (w : World) : Calls Tryz.prog 54 #[.int .i64 n] w fun e w' => e = .returned (.tuple #[.int .u64 (wordR 1 n 0), .bool (rightB 1 n 0)]) /\ w' = w := by
 unfold Z64 at hn
 by_cases h : -1152921504606846976 <= n /\ n < 1152921504606846976
 ·have hr : Hid (rightB 1 n 0 = true) := by unfold Hid rightB; simp [h.1, h.2]
  have w1 : IntKind.u64.wrap (IntKind.u64.wrap n * 8) = (n * 8) % 18446744073709551616 := by
   rw [IntKind.wrap_u64, IntKind.wrap_u64]; omega
  have e0 : bits .or .u64 ((n * 8) % 18446744073709551616) 0 = (n * 8) % 18446744073709551616 := by
   have := or_low3 (x := (n * 8) % 18446744073709551616) (b := 0) (by unfold U64; omega) (by omega) (by omega)
   rw [this]; exact Int.add_zero _
  go_enter Tryz.func54, Tryz.ntmps54
  go_wp2
  all_goals go_ret2
  all_goals exact ⟨tup_yes hr.out (by first | rfl | (show bits .or .u64 (IntKind.u64.wrap (IntKind.u64.wrap n * 8)) 0 = (n * 8) % 18446744073709551616; rw [w1, e0]) | (show bits .or .u64 ((n * 8) % 18446744073709551616) 0 = (n * 8) % 18446744073709551616; rw [e0])), rfl⟩
 ·have hr : Hid (rightB 1 n 0 = false) := by unfold Hid rightB; simp; omega
  go_enter Tryz.func54, Tryz.ntmps54
  go_wp2
  all_goals go_ret2
  all_goals first
  | exact ⟨tup_no hr.out, rfl⟩
  | (exfalso; omega)
theorem ptr_any (n : Int) (hn : Z64 n) (w : World) : Calls Tryz.prog 82 #[.int .i64 n] w fun e w' => e = .returned (.tuple #[.int .u64 (wordR 2 n 0), .bool (rightB 2 n 0)]) /\ w' = w := by
 unfold Z64 at hn
 by_cases h : 0 <= n /\ n <= 1099511627776
 ·have hr : Hid (rightB 2 n 0 = true) := by unfold Hid rightB; simp [h.1, h.2]
  have e0 : bits .or .u64 (n * 8) 1 = n * 8 + 1 := or_low3 (by unfold U64; omega) (by omega) (by omega)
  obtain ⟨h1, h2⟩ := h
  go_enter Tryz.func82, Tryz.ntmps82
  go_wp2
  all_goals go_ret2
  all_goals first
  | exact ⟨tup_yes hr.out rfl, rfl⟩
  | (exfalso; omega)
 ·have hr : Hid (rightB 2 n 0 = false) := by unfold Hid rightB; simp; omega
  go_enter Tryz.func82, Tryz.ntmps82
  go_wp2
  all_goals go_ret2
  all_goals first
  | exact ⟨tup_no hr.out, rfl⟩
  | (exfalso; omega)
theorem head_any (n t : Int) (hn : Z64 n) (ht : Z64 t) (w : World) : Calls Tryz.prog 83 #[.int .i64 t, .int .i64 n] w fun e w' => e = .returned (.tuple #[.int .u64 (wordR 8 n t), .bool (rightB 8 n t)]) /\ w' = w := by
 unfold Z64 at hn ht
 by_cases h : (1 <= t /\ t <= 255) /\ 0 <= n /\ n <= 1099511627776
 ·have hr : Hid (rightB 8 n t = true) := by unfold Hid rightB; simp [h.1.1, h.1.2, h.2.1, h.2.2]
  have e0 : bits .or .u64 (n * 2048) (t * 8) = n * 2048 + t * 8 := or_low11 (by unfold U64; omega) (by omega) (by omega)
  have e1 : bits .or .u64 (n * 2048 + t * 8) 7 = n * 2048 + t * 8 + 7 := or_low3 (by unfold U64; omega) (by omega) (by omega)
  obtain ⟨⟨h1, h2⟩, h3, h4⟩ := h
  go_enter Tryz.func83, Tryz.ntmps83
  go_wp2
  all_goals go_ret2
  all_goals first
  | exact ⟨tup_yes hr.out rfl, rfl⟩
  | (exfalso; omega)
 ·have hr : Hid (rightB 8 n t = false) := by unfold Hid rightB; simp; omega
  go_enter Tryz.func83, Tryz.ntmps83
  go_wp2
  all_goals go_ret2
  all_goals first
  | exact ⟨tup_no hr.out, rfl⟩
  | (exfalso; omega)
theorem int_any (x : Int) (hx : U64 x) (w : World) : Calls Tryz.prog 60 #[.int .u64 x] w fun e w' => e = .returned (.tuple #[.int .i64 (hasR 1 x), .bool (isR 1 x)]) /\ w' = w := by
 have e0 := and7 hx
 unfold U64 at hx
 by_cases h : x % 8 = 0
 ·have e1 : wrap64 x / 8 = sgnW x / 8 := by unfold wrap64 sgnW; split <;> omega
  have ho : Hid (ofR x = (1, wrap64 x / 8, 0)) := by
   refine raw_yes (by unfold ofRaw; rw [if_pos h, e1]) ?_
   unfold rightB; rw [e1]; unfold sgnW
   simp; split <;> omega
  clear e1
  go_enter Tryz.func60, Tryz.ntmps60
  go_wp2
  all_goals go_ret2
  all_goals exact ⟨tell_yes ho.out, rfl⟩
 ·have ho : Hid ((ofR x).1 ≠ 1) := by
   refine raw_not (by decide) ?_
   unfold ofRaw; rw [if_neg h]
   split
   ·exact (by decide : (2 : Int) ≠ 1)
   split
   ·split
    ·exact (by decide : (3 : Int) ≠ 1)
    split
    ·show x / 8 % 32 - 2 ≠ 1; omega
    ·exact (by decide : (0 : Int) ≠ 1)
   split
   ·exact (by decide : (8 : Int) ≠ 1)
   ·exact (by decide : (0 : Int) ≠ 1)
  go_enter Tryz.func60, Tryz.ntmps60
  go_wp2
  all_goals go_ret2
  all_goals exact ⟨tell_no ho.out, rfl⟩
theorem at_any (x : Int) (hx : U64 x) (w : World) : Calls Tryz.prog 105 #[.int .u64 x] w fun e w' => e = .returned (.tuple #[.int .i64 (hasR 2 x), .bool (isR 2 x)]) /\ w' = w := by
 have e0 := and7 hx
 unfold U64 at hx
 by_cases h : x % 8 = 1
 ·have hw : Hid (ofRaw x = (2, x / 8, 0)) := by unfold Hid ofRaw; rw [if_neg (by omega), if_pos h]
  by_cases h2 : x / 8 <= 1099511627776
  ·have ho : Hid (ofR x = (2, x / 8, 0)) := raw_yes hw.out (by unfold rightB; simp; omega)
   go_enter Tryz.func105, Tryz.ntmps105
   go_wp2
   all_goals go_ret2
   all_goals first
   | exact ⟨tell_yes ho.out, rfl⟩
   | (exfalso; omega)
  ·have ho : Hid ((ofR x).1 ≠ 2) := raw_bad (by decide) (by rw [hw.out]; unfold rightB; simp; omega)
   go_enter Tryz.func105, Tryz.ntmps105
   go_wp2
   all_goals go_ret2
   all_goals first
   | exact ⟨tell_no ho.out, rfl⟩
   | (exfalso; omega)
 ·have ho : Hid ((ofR x).1 ≠ 2) := by
   refine raw_not (by decide) ?_
   unfold ofRaw
   split
   ·exact (by decide : (1 : Int) ≠ 2)
   split
   ·split
    ·exact (by decide : (3 : Int) ≠ 2)
    split
    ·show x / 8 % 32 - 2 ≠ 2; omega
    ·exact (by decide : (0 : Int) ≠ 2)
   split
   ·exact (by decide : (8 : Int) ≠ 2)
   ·exact (by decide : (0 : Int) ≠ 2)
  go_enter Tryz.func105, Tryz.ntmps105
  go_wp2
  all_goals go_ret2
  all_goals exact ⟨tell_no ho.out, rfl⟩
theorem headof_any (x : Int) (hx : U64 x) (w : World) : Calls Tryz.prog 80 #[.int .u64 x] w fun e w' => e = .returned (.tuple #[.int .i64 (typR x), .int .i64 (hasR 8 x), .bool (isR 8 x)]) /\ w' = w := by
 have e0 := and7 hx
 have e1 := and255w (x := x / 8) (by unfold U64 at hx ⊢; omega)
 unfold U64 at hx
 by_cases h : x % 8 = 7
 ·have hw : Hid (ofRaw x = (8, x / 2048, x / 8 % 256)) := by unfold Hid ofRaw; rw [if_neg (by omega), if_neg (by omega), if_neg (by omega), if_pos h]
  by_cases h2 : 1 <= x / 8 % 256 /\ x / 2048 <= 1099511627776
  ·have ho : Hid (ofR x = (8, x / 2048, x / 8 % 256)) := raw_yes hw.out (by unfold rightB; simp; omega)
   obtain ⟨h3, h4⟩ := h2
   go_enter Tryz.func80, Tryz.ntmps80
   go_wp2
   all_goals go_ret3
   all_goals first
   | exact ⟨tellh_yes ho.out, rfl⟩
   | (exfalso; omega)
  ·have ho : Hid ((ofR x).1 ≠ 8) := raw_bad (by decide) (by rw [hw.out]; unfold rightB; simp; omega)
   go_enter Tryz.func80, Tryz.ntmps80
   go_wp2
   all_goals go_ret3
   all_goals first
   | exact ⟨tellh_no ho.out, rfl⟩
   | (exfalso; omega)
 ·have ho : Hid ((ofR x).1 ≠ 8) := by
   refine raw_not (by decide) ?_
   unfold ofRaw
   split
   ·exact (by decide : (1 : Int) ≠ 8)
   split
   ·exact (by decide : (2 : Int) ≠ 8)
   split
   ·split
    ·exact (by decide : (3 : Int) ≠ 8)
    split
    ·show x / 8 % 32 - 2 ≠ 8; omega
    ·exact (by decide : (0 : Int) ≠ 8)
   exact (by decide : (0 : Int) ≠ 8)
  go_enter Tryz.func80, Tryz.ntmps80
  go_wp2
  all_goals go_ret3
  all_goals exact ⟨tellh_no ho.out, rfl⟩
end Go.Proofs.YtdekkieajffblaaGreatDoor
