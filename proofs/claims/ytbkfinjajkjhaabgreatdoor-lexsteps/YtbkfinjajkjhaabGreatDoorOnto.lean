import Derived.Test.YtbkfinjajkjhaabGreatDoorProg
import Derived.Test.YtbkfinjajkjhaabGreatDoorBase
import Derived.BigQuiet
import Derived.Deep.QuietTactic
import Derived.Laws.BitsAllLaws
set_option linter.unusedVariables false
set_option linter.unusedSimpArgs false
namespace Go.Proofs.YtbkfinjajkjhaabGreatDoor
open Go.RowKit
theorem ret_bool {a b : Bool} (h : a = b) : Ending.returned (.bool a) = .returned (.bool b) := by rw [h]
set_option maxHeartbeats 400000 in
theorem good_any (neg : Bool) (ao : Option Addr) (n cap : Nat) (l : List Nat) (w : World) (R : Row .u32 B32 w ao n cap l) :
  Calls Tryz.prog 50 #[.agg #[.bool neg, .slice ao n cap]] w fun e w' => e = .returned (.bool (goodB neg l)) /\ Below w.heap.size w w' := by
 obtain ⟨hn, hcap, hmax, _, hdg, hrd⟩ := R
 unfold maxLen at hmax
 by_cases h0 : n = 0
 ·subst h0
  go_enter Tryz.func50, Tryz.ntmps50
  go_wp2
  go_ret
  exact ⟨by simp [goodB, hn], by exact (Below.refl _ _).alloc (Nat.le_refl _) _⟩
 ·obtain ⟨b, o, rfl, hl, hc⟩ := hrd.some (by omega)
  have hc1 := hc (n - 1) (by omega)
  have e0 : ((n : Int) == 0) = false := by simp; omega
  obtain ⟨d, hd⟩ : ∃ d, d = l.getD (n - 1) 0 := ⟨_, rfl⟩
  rw [<- hd] at hc1
  have HG : Hid (goodB neg l = (decide (n <= 40) && decide (d ≠ 0))) := by
   unfold Hid goodB; rw [hn, <- hd]
   simp [show ¬ n = 0 from h0, show 0 < n by omega]
  clear hd hc hn hrd hdg
  by_cases h40 : n <= 40
  ·go_enter Tryz.func50, Tryz.ntmps50
   go_wp2
   go_ret
   exact ⟨by rw [HG.out]; apply ret_bool; simp [h40, bne_nat], by exact (Below.refl _ _).alloc (Nat.le_refl _) _⟩
  ·go_enter Tryz.func50, Tryz.ntmps50
   go_wp2
   go_ret
   exact ⟨by rw [HG.out]; apply ret_bool; simp [h40, bne_nat], by exact (Below.refl _ _).alloc (Nat.le_refl _) _⟩
set_option maxHeartbeats 400000 in
theorem trim_any (ao : Option Addr) (n cap : Nat) (l : List Nat) (w : World) (R : Row .u32 B32 w ao n cap l) :
  Calls Tryz.prog 52 #[.slice ao n cap] w fun e w' => ∃ m, m <= n /\ e = .returned (.slice ao m m) /\ w' = w /\ Tr (l.take m) /\ val B32 (l.take m) = val B32 l := by
 obtain ⟨hn, hcap, hmax, _, hdg, hrd⟩ := R
 unfold maxLen at hmax
 have HN : Hid (l.length = n) := hn
 clear hn hdg
 go_enter Tryz.func52, Tryz.ntmps52
 go_wp2
 go_loop [3] (fun t => ∃ m : Nat, m <= n /\ t = .int .i64 m /\ Hid (val B32 (l.take m) = val B32 l)) (fun t => (intOf t).toNat)
 case atStart => exact ⟨n, Nat.le_refl _, rfl, by unfold Hid; rw [List.take_of_length_le (by rw [HN.out]; exact Nat.le_refl _)]⟩
 case round =>
  obtain ⟨m, hm, rfl, hv⟩ := hrel
  by_cases hz : m = 0
  ·subst hz
   go_wp2
   go_ret
   exact ⟨0, Nat.zero_le _, rfl, rfl, .inl (by simp), hv.out⟩
  ·obtain ⟨b, o, rfl, hl, hc⟩ := hrd.some (by rw [HN.out]; omega)
   have hc1 := hc (m - 1) (by rw [HN.out]; omega)
   obtain ⟨d, hd⟩ : ∃ d, d = l.getD (m - 1) 0 := ⟨_, rfl⟩
   rw [<- hd] at hc1
   have HD : Hid (d = l.getD (m - 1) 0) := hd
   clear hd hc hrd
   have hpos : (0 : Int) < m := by omega
   by_cases hd0 : d = 0
   ·subst hd0
    go_wp2
    go_round
    case rel => exact ⟨m - 1, by omega, by go_num, by
     unfold Hid
     rw [<- hv.out]
     have := val_take_zero B32 l (m - 1) (by rw [HN.out]; omega) HD.out.symm
     rw [show m - 1 + 1 = m by omega] at this
     exact this.symm⟩
    case measure => simp [intOf]; omega
   ·have hne : ((d : Int) == 0) = false := by simp; omega
    go_wp2
    go_ret
    exact ⟨m, hm, rfl, rfl, Tr.take_of (by rw [HN.out]; exact hm) (.inr (by rw [<- HD.out]; exact hd0)), hv.out⟩
set_option maxHeartbeats 400000 in
theorem whole_any (neg : Bool) (ao : Option Addr) (n cap : Nat) (l : List Nat) (w : World) (R : Row .u32 B32 w ao n cap l) :
  Calls Tryz.prog 49 #[.bool neg, .slice ao n cap] w fun e w' => ∃ x l', e = .returned x /\ IntIs w' x (neg && decide (l' ≠ [])) l' /\ Tr l' /\ val B32 l' = val B32 l /\ l'.length <= n /\ Below w.heap.size w w' := by
 go_enter Tryz.func49, Tryz.ntmps49
 go_wp2_with fail
 refine (trim_any ao n cap l _ (R.below (Ba _ _))).mono ?_
 rintro e w1 ⟨m, hm, rfl, rfl, ht, hv⟩
 have R2 := R.take hm m (Nat.le_refl _) (Nat.le_trans hm R.fits)
 have hmn := R.most
 have hmc := R.fits
 unfold maxLen at hmn
 have hl := R.len
 have HR := hid R2
 have HT := hid ht
 have HV := hid hv
 have HL := hid hl
 clear R R2 ht hv hl
 by_cases h0 : m = 0
 ·subst h0
  go_wp2
  refine bodyPost_ret (v := .agg #[.bool false, .slice none 0 0]) (by simp [results, Tryz.results49, go_sem]) rfl ⟨_, [], rfl, ⟨none, 0, 0, by simp, Row.nil _ _ _ _⟩, Tr.nil, ?_, by simp, Ba _ _⟩
  rw [<- HV.out]; simp
 ·have e0 : ((m : Int) == 0) = false := by simp; omega
  go_wp2
  refine bodyPost_ret (v := .agg #[.bool neg, .slice ao m m]) (by simp [results, Tryz.results49, go_sem]) rfl ⟨_, l.take m, rfl, ⟨ao, m, m, ?_, HR.out.below (Ba _ _)⟩, HT.out, HV.out, by rw [List.length_take]; omega, Ba _ _⟩
  have hne : l.take m ≠ [] := by
   intro e
   have := congrArg List.length e
   rw [List.length_take, HL.out] at this
   simp at this; omega
  simp [hne]
theorem ret_i64 {a b : Int} (h : a = b) : Ending.returned (.int .i64 a) = .returned (.int .i64 b) := by rw [h]
structure Win (k : IntKind) (e : TypeId) (w : World) (g o n : Nat) (cur : Array Value) (l : List Nat) : Prop where
 blk : w.heap[g]? = some (.cells cur e (0, 0))
 fits : o + n <= cur.size
 len : l.length = n
 at_ : ∀ i, i < n -> cur[o + i]? = some (.int k (l.getD i 0 : Nat))
structure Onto (k : IntKind) (e : TypeId) (g o n : Nat) (w w' : World) (cur : Array Value) (l : List Nat) : Prop where
 os : w'.os = w.os
 tape : w'.tape = w.tape
 output : w'.output = w.output
 size : w'.heap.size = w.heap.size
 block : ∀ j, j ≠ g -> w'.heap[j]? = w.heap[j]?
 row : ∃ cur', Win k e w' g o n cur' l /\ cur'.size = cur.size /\ ∀ j, (j < o \/ o + n <= j) -> cur'[j]? = cur[j]?
variable {k : IntKind} {e : TypeId} {g o n : Nat} {w w' w'' : World} {cur : Array Value} {l : List Nat}
theorem Win.cell (h : Win k e w g o n cur l) {i : Nat} (hi : i < n) : w.cell? ⟨g, o + i, none⟩ = some (.int k (l.getD i 0 : Nat)) := by
 simp [World.cell?, h.blk, h.at_ i hi]
theorem Win.frozen (h : Win k e w g o n cur l) (i : Nat) : w.frozen? ⟨g, i, none⟩ = false := by simp [World.frozen?, h.blk]
theorem Win.lt (h : Win k e w g o n cur l) : g < w.heap.size := (Array.getElem?_eq_some_iff.1 h.blk).1
theorem Win.onto (h : Win k e w g o n cur l) : Onto k e g o n w w cur l := ⟨rfl, rfl, rfl, rfl, fun _ _ => rfl, cur, h, rfl, fun _ _ => rfl⟩
theorem Win.rd (h : Win k e w g o n cur l) : Rd k w (some ⟨g, o, none⟩) l := .inr ⟨g, o, rfl, h.lt, fun i hi => h.cell (by rw [<- h.len]; exact hi)⟩
theorem Onto.cell (h : Onto k e g o n w w' cur l) {i : Nat} (hi : i < n) : w'.cell? ⟨g, o + i, none⟩ = some (.int k (l.getD i 0 : Nat)) := by
 obtain ⟨c, hw, _⟩ := h.row; exact hw.cell hi
theorem Onto.frozen (h : Onto k e g o n w w' cur l) (i : Nat) : w'.frozen? ⟨g, i, none⟩ = false := by
 obtain ⟨c, hw, _⟩ := h.row; exact hw.frozen i
theorem Onto.len (h : Onto k e g o n w w' cur l) : l.length = n := by
 obtain ⟨c, hw, _⟩ := h.row; exact hw.len
theorem Onto.drewN (h : Onto k e g o n w w' cur l) (q : Nat) : Onto k e g o n w (w'.drewN q) cur l := by
 obtain ⟨c, hw, h1, h2⟩ := h.row
 exact ⟨h.os, h.tape, h.output, h.size, h.block, c, ⟨hw.blk, hw.fits, hw.len, hw.at_⟩, h1, h2⟩
theorem getD_set {l : List Nat} {i j x : Nat} (hi : i < l.length) : (l.set i x).getD j 0 = if j = i then x else l.getD j 0 := by
 rw [List.getD_eq_getElem?_getD, List.getElem?_set]
 by_cases h : i = j
 ·subst h; simp [hi]
 ·rw [if_neg h, if_neg (fun e => h e.symm), <- List.getD_eq_getElem?_getD]
theorem Onto.store (h : Onto k e g o n w w' cur l) {i : Nat} (hi : i < n) (x : Nat) : Onto k e g o n w (w'.setCell ⟨g, o + i, none⟩ (.int k x)) cur (l.set i x) := by
 obtain ⟨c, hw, h1, h2⟩ := h.row
 have hb : (w'.setCell ⟨g, o + i, none⟩ (.int k x)).heap[g]? = some (.cells (c.setIfInBounds (o + i) (.int k x)) e (0, 0)) := by
  simp [World.setCell, Array.getElem?_modify, hw.blk]
 refine ⟨h.os, h.tape, h.output, by rw [<- h.size]; simp [World.setCell], fun j hj => ?_, c.setIfInBounds (o + i) (.int k x), ⟨hb, by simpa using hw.fits, by simpa using hw.len, fun j hj => ?_⟩, by simpa using h1, fun j hj => ?_⟩
 ·rw [<- h.block j hj]; exact Below.heap_setCell _ _ _ _ hj
 ·have := hw.fits
  rw [Array.getElem?_setIfInBounds, getD_set (by rw [hw.len]; exact hi)]
  by_cases e1 : j = i
  ·subst e1; simp; omega
  ·rw [if_neg (by omega), if_neg e1]; exact hw.at_ j hj
 ·rw [Array.getElem?_setIfInBounds, if_neg (by omega)]; exact h2 j hj
theorem Onto.below (h : Onto k e g o n w w' cur l) {B : Nat} (hB : B <= g) : Below B w w' := ⟨h.os, h.tape, h.output, Nat.le_of_eq h.size.symm, fun j hj => h.block j (by omega)⟩
theorem Onto.congr (h : Onto k e g o n w w' cur l) {l2 : List Nat} (e2 : l = l2) : Onto k e g o n w w' cur l2 := e2 ▸ h
structure Own (k : IntKind) (e : TypeId) (B base : Nat) (w : World) (ao : Option Addr) (n cap : Nat) (l : List Nat) : Prop where
 row : Row k B w ao n cap l
 own : n = 0 \/ ∃ g cur, ao = some ⟨g, 0, none⟩ /\ base <= g /\ Win k e w g 0 n cur l
end Go.Proofs.YtbkfinjajkjhaabGreatDoor
