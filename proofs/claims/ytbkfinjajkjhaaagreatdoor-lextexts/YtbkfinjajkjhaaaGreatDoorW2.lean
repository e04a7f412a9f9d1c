import Derived.WalkKit
import Derived.WalkSpells
import Derived.WalkLawsBesides
import Derived.Deep.OwnRows
import Derived.Deep.Draws
import Derived.Test.YtbkfinjajkjhaaaGreatDoorProg
import Derived.BigQuiet
import Derived.Deep.QuietTactic
set_option linter.unusedVariables false
set_option linter.unusedSimpArgs false
namespace Go.Proofs.YtbkfinjajkjhaaaGreatDoor
def val (B : Nat) : List Nat -> Nat
 | [] => 0
 | x :: r => x + B * val B r
def Dg (B : Nat) (l : List Nat) : Prop := ∀ x ∈ l, x < B
def Tr (l : List Nat) : Prop := l = [] \/ l.getD (l.length - 1) 0 ≠ 0
theorem val_cons (B x : Nat) (r : List Nat) : val B (x :: r) = x + B * val B r := rfl
theorem val_append (B : Nat) (l r : List Nat) : val B (l ++ r) = val B l + B ^ l.length * val B r := by
 induction l with
 | nil => simp [val]
 | cons x l ih => simp only [List.cons_append, val_cons, ih, List.length_cons, Nat.pow_succ]; rw [Nat.mul_add]; rw [Nat.mul_comm (B ^ l.length) B, Nat.mul_assoc]; omega
theorem val_snoc (B : Nat) (l : List Nat) (x : Nat) : val B (l ++ [x]) = val B l + B ^ l.length * x := by rw [val_append]; simp [val]
theorem take_snoc (l : List Nat) (k : Nat) (h : k < l.length) : l.take (k + 1) = l.take k ++ [l.getD k 0] := by
 rw [List.take_succ_eq_append_getElem h, List.getD_eq_getElem?_getD, List.getElem?_eq_getElem h]; rfl
theorem drop_cons (l : List Nat) (k : Nat) (h : k < l.length) : l.drop k = l.getD k 0 :: l.drop (k + 1) := by
 rw [List.drop_eq_getElem_cons h, List.getD_eq_getElem?_getD, List.getElem?_eq_getElem h]; rfl
theorem val_take_succ (B : Nat) (l : List Nat) (k : Nat) (h : k < l.length) : val B (l.take (k + 1)) = val B (l.take k) + B ^ k * l.getD k 0 := by
 rw [take_snoc l k h, val_snoc, List.length_take, Nat.min_eq_left (Nat.le_of_lt h)]
theorem val_drop_succ (B : Nat) (l : List Nat) (k : Nat) (h : k < l.length) : val B (l.drop k) = l.getD k 0 + B * val B (l.drop (k + 1)) := by
 rw [drop_cons l k h, val_cons]
theorem val_split (B : Nat) (l : List Nat) (k : Nat) (h : k <= l.length) : val B l = val B (l.take k) + B ^ k * val B (l.drop k) := by
 have := val_append B (l.take k) (l.drop k)
 rw [List.take_append_drop, List.length_take, Nat.min_eq_left h] at this
 exact this
theorem Dg.take {B : Nat} {l : List Nat} (h : Dg B l) (k : Nat) : Dg B (l.take k) := fun x hx => h x (List.mem_of_mem_take hx)
theorem Dg.drop {B : Nat} {l : List Nat} (h : Dg B l) (k : Nat) : Dg B (l.drop k) := fun x hx => h x (List.mem_of_mem_drop hx)
theorem Dg.append {B : Nat} {l r : List Nat} (h : Dg B l) (k : Dg B r) : Dg B (l ++ r) := fun x hx => (List.mem_append.1 hx).elim (h x) (k x)
theorem Dg.nil (B : Nat) : Dg B [] := fun x hx => by cases hx
theorem Dg.one {B x : Nat} (h : x < B) : Dg B [x] := fun y hy => by simp at hy; omega
theorem getD_mem {l : List Nat} {k : Nat} (h : k < l.length) : l.getD k 0 ∈ l := by
 rw [List.getD_eq_getElem?_getD, List.getElem?_eq_getElem h]; exact List.getElem_mem h
theorem Dg.getD {B : Nat} {l : List Nat} (h : Dg B l) (k : Nat) (hk : k < l.length) : l.getD k 0 < B := h _ (getD_mem hk)
theorem val_lt {B : Nat} {l : List Nat} (h : Dg B l) : val B l < B ^ l.length := by
 induction l with
 | nil => simp [val]
 | cons x l ih =>
  have h1 : x < B := h x (by simp)
  have h2 := ih (fun y hy => h y (by simp [hy]))
  rw [val_cons, List.length_cons, Nat.pow_succ, Nat.mul_comm (B ^ l.length) B]
  have h3 : B * (val B l + 1) <= B * B ^ l.length := Nat.mul_le_mul_left B h2
  rw [Nat.mul_add] at h3
  omega
theorem Tr.nil : Tr [] := .inl rfl
theorem Tr.pos {B : Nat} (hB : 0 < B) {l : List Nat} (h : Tr l) (hl : l ≠ []) : B ^ (l.length - 1) <= val B l := by
 have hn : l.length - 1 < l.length := by cases l with | nil => exact absurd rfl hl | cons => simp
 have hd : l.getD (l.length - 1) 0 ≠ 0 := h.resolve_left hl
 rw [val_split B l (l.length - 1) (by omega), val_drop_succ B l _ hn]
 have : B ^ (l.length - 1) * 1 <= B ^ (l.length - 1) * (l.getD (l.length - 1) 0 + B * val B (l.drop (l.length - 1 + 1))) := Nat.mul_le_mul_left _ (by omega)
 omega
theorem Tr.ne_zero {B : Nat} (hB : 0 < B) {l : List Nat} (h : Tr l) (hl : l ≠ []) : val B l ≠ 0 := by
 have := h.pos hB hl
 have := Nat.pow_pos (n := l.length - 1) hB
 omega
theorem length_le_of_val {B n : Nat} (hB : 1 < B) {a : List Nat} (ta : Tr a) (h : val B a < B ^ n) : a.length <= n := by
 apply Classical.byContradiction; intro hl
 have h2 := ta.pos (B := B) (by omega) (by intro e; simp [e] at hl)
 have h3 : B ^ n <= B ^ (a.length - 1) := Nat.pow_le_pow_right (by omega) (by omega)
 omega
theorem val_lt_iff {B n : Nat} (hB : 1 < B) {a : List Nat} (ha : Dg B a) (ta : Tr a) : a.length <= n ↔ val B a < B ^ n := by
 constructor
 ·intro h
  have h1 := val_lt ha
  have h3 : B ^ a.length <= B ^ n := Nat.pow_le_pow_right (by omega) h
  omega
 ·exact length_le_of_val hB ta
theorem val_take_zero (B : Nat) (l : List Nat) (k : Nat) (h : k < l.length) (h0 : l.getD k 0 = 0) : val B (l.take (k + 1)) = val B (l.take k) := by
 rw [val_take_succ B l k h, h0]; simp
theorem Tr.take_of {l : List Nat} {m : Nat} (hm : m <= l.length) (h : m = 0 \/ l.getD (m - 1) 0 ≠ 0) : Tr (l.take m) := by
 by_cases h0 : m = 0
 ·subst h0; exact .inl (by simp)
 ·refine .inr ?_
  rw [List.length_take, Nat.min_eq_left hm, List.getD_eq_getElem?_getD, List.getElem?_take, if_pos (by omega), <- List.getD_eq_getElem?_getD]
  rcases h with h | h
  ·exact absurd h h0
  ·exact h
theorem getD_take {l : List Nat} {m i : Nat} (h : i < m) : (l.take m).getD i 0 = l.getD i 0 := by
 rw [List.getD_eq_getElem?_getD, List.getElem?_take, if_pos h, <- List.getD_eq_getElem?_getD]
theorem getD_append_left {l r : List Nat} {i : Nat} (h : i < l.length) : (l ++ r).getD i 0 = l.getD i 0 := by
 rw [List.getD_eq_getElem?_getD, List.getElem?_append_left h, <- List.getD_eq_getElem?_getD]
theorem getD_append_at {l : List Nat} {x : Nat} {i : Nat} (h : i = l.length) : (l ++ [x]).getD i 0 = x := by
 subst h; rw [List.getD_eq_getElem?_getD]; simp
end Go.Proofs.YtbkfinjajkjhaaaGreatDoor
namespace Go.Proofs.YtbkfinjajkjhaaaGreatDoor
open Go.RowKit
theorem hid {p : Prop} (h : p) : Hid p := h
def Rd (k : IntKind) (w : World) (ao : Option Addr) (l : List Nat) : Prop :=
 l = [] \/ ∃ b o, ao = some ⟨b, o, none⟩ /\ b < w.heap.size /\ ∀ i, i < l.length -> w.cell? ⟨b, o + i, none⟩ = some (.int k (l.getD i 0 : Nat))
structure Row (k : IntKind) (B : Nat) (w : World) (ao : Option Addr) (n cap : Nat) (l : List Nat) : Prop where
 len : l.length = n
 fits : n <= cap
 most : cap <= maxLen
 nil_ : ao = none -> cap = 0
 dg : Dg B l
 rd : Rd k w ao l
theorem Rd.some {k : IntKind} {w : World} {ao : Option Addr} {l : List Nat} (h : Rd k w ao l) (hl : 0 < l.length) :
  ∃ b o, ao = some ⟨b, o, none⟩ /\ b < w.heap.size /\ ∀ i, i < l.length -> w.cell? ⟨b, o + i, none⟩ = some (.int k (l.getD i 0 : Nat)) := by
 rcases h with h | h
 ·simp [h] at hl
 ·exact h
theorem Rd.below {k : IntKind} {w w' : World} {ao : Option Addr} {l : List Nat} (h : Rd k w ao l) (hb : Below w.heap.size w w') : Rd k w' ao l := by
 rcases h with h | ⟨b, o, e, hl, hc⟩
 ·exact .inl h
 ·exact .inr ⟨b, o, e, Nat.lt_of_lt_of_le hl hb.size, fun i hi => (hb.cell (p := ⟨b, o + i, none⟩) hl).trans (hc i hi)⟩
theorem Rd.take {k : IntKind} {w : World} {ao : Option Addr} {l : List Nat} (h : Rd k w ao l) (m : Nat) : Rd k w ao (l.take m) := by
 rcases h with h | ⟨b, o, e, hl, hc⟩
 ·exact .inl (by simp [h])
 ·refine .inr ⟨b, o, e, hl, fun i hi => ?_⟩
  rw [List.length_take] at hi
  rw [getD_take (by omega)]
  exact hc i (by omega)
theorem Row.below {k : IntKind} {B : Nat} {w w' : World} {ao : Option Addr} {n cap : Nat} {l : List Nat} (h : Row k B w ao n cap l) (hb : Below w.heap.size w w') : Row k B w' ao n cap l :=
 ⟨h.len, h.fits, h.most, h.nil_, h.dg, h.rd.below hb⟩
theorem Row.take {k : IntKind} {B : Nat} {w : World} {ao : Option Addr} {n cap m : Nat} {l : List Nat} (h : Row k B w ao n cap l) (hm : m <= n) (cap' : Nat) (h1 : m <= cap') (h2 : cap' <= cap) : Row k B w ao m cap' (l.take m) :=
 ⟨by rw [List.length_take, h.len, Nat.min_eq_left hm], h1, Nat.le_trans h2 h.most, fun e => by have := h.nil_ e; omega, h.dg.take m, h.rd.take m⟩
theorem Row.nil (k : IntKind) (B : Nat) (w : World) (ao : Option Addr) : Row k B w ao 0 0 [] := ⟨rfl, Nat.le_refl _, Nat.zero_le _, fun _ => rfl, Dg.nil B, .inl rfl⟩
theorem Ba (w : World) (o : Obj) : Below w.heap.size w (w.alloc o) := (Below.refl _ _).alloc (Nat.le_refl _) o
theorem Bd (w : World) (k : Nat) : Below w.heap.size w (w.drewN k) := ⟨rfl, rfl, rfl, Nat.le_refl _, fun _ _ => rfl⟩
theorem Bt {w w1 w2 : World} (h1 : Below w.heap.size w w1) (h2 : Below w1.heap.size w1 w2) : Below w.heap.size w w2 := h1.trans (h2.mono h1.size)
theorem Baa (w : World) (o o2 : Obj) : Below w.heap.size w ((w.alloc o).alloc o2) := Bt (Ba w o) (Ba _ o2)
theorem size_alloc (w : World) (o : Obj) : (w.alloc o).heap.size = w.heap.size + 1 := by simp
def B32 : Nat := 4294967296
theorem bne_nat (d : Nat) : ((d : Int) != 0) = !decide (d = 0) := by
 by_cases h : d = 0
 ·subst h; rfl
 ·have : ((d : Int) != 0) = true := by rw [bne_iff_ne]; omega
  rw [this]; simp [h]
def IntIs (w : World) (x : Value) (neg : Bool) (l : List Nat) : Prop := ∃ ao n cap, x = .agg #[.bool neg, .slice ao n cap] /\ Row .u32 B32 w ao n cap l
theorem IntIs.below {w w' : World} {x : Value} {neg : Bool} {l : List Nat} (h : IntIs w x neg l) (hb : Below w.heap.size w w') : IntIs w' x neg l := by
 obtain ⟨ao, n, cap, e, R⟩ := h
 exact ⟨ao, n, cap, e, R.below hb⟩
def goodB (neg : Bool) (l : List Nat) : Bool := (decide (l.length = 0) && !neg) || (decide (0 < l.length) && decide (l.length <= 40) && decide (l.getD (l.length - 1) 0 ≠ 0))
theorem goodB_tr {neg : Bool} {l : List Nat} (h : goodB neg l = true) : Tr l := by
 unfold goodB at h
 by_cases h0 : l.length = 0
 ·exact .inl (List.length_eq_zero_iff.1 h0)
 ·simp [h0] at h
  exact .inr (by simpa using h.2)
theorem goodB_len {neg : Bool} {l : List Nat} (h : goodB neg l = true) : l.length <= 40 := by
 unfold goodB at h
 by_cases h0 : l.length = 0
 ·omega
 ·simp [h0] at h; omega
theorem goodB_mk {neg : Bool} {l : List Nat} (ht : Tr l) (hl : l.length <= 40) (hn : l.length = 0 -> neg = false) : goodB neg l = true := by
 unfold goodB
 by_cases h0 : l.length = 0
 ·simp [h0, hn h0]
 ·have : l.getD (l.length - 1) 0 ≠ 0 := ht.resolve_left (fun e => h0 (by simp [e]))
  simp only [h0, this, hl, decide_true, decide_false, Bool.false_and, Bool.false_or, ne_eq, not_false_eq_true, Bool.and_true, decide_eq_true_eq]
  omega
end Go.Proofs.YtbkfinjajkjhaaaGreatDoor
namespace Go.Proofs.YtbkfinjajkjhaaaGreatDoor
open Go.RowKit
theorem ret_bool {a b : Bool} (h : a = b) : Ending.returned (.bool a) = .returned (.bool b) := by rw [h]
set_option maxHeartbeats 400000 in
theorem good_any (neg : Bool) (ao : Option Addr) (n cap : Nat) (l : List Nat) (w : World) (R : Row .u32 B32 w ao n cap l) :
  Calls Tryz.prog 108 #[.agg #[.bool neg, .slice ao n cap]] w fun e w' => e = .returned (.bool (goodB neg l)) /\ Below w.heap.size w w' := by
 obtain ⟨hn, hcap, hmax, _, hdg, hrd⟩ := R
 unfold maxLen at hmax
 by_cases h0 : n = 0
 ·subst h0
  go_enter Tryz.func108, Tryz.ntmps108
  go_wp2
  go_ret
  exact ⟨by simp [goodB, hn], by exact (Below.refl _ _).alloc (Nat.le_refl _) _⟩
 ·obtain ⟨b, o, rfl, hl, hc⟩ := hrd.some (by omega)
  have hc1 := hc (n - 1) (by omega)
  have e0 : ((n : Int) == 0) = false := by simp; omega
  obtain ⟨d, hd⟩ : ∃ d, d = l.getD (n - 1) 0 := ⟨_, rfl⟩
  rw [<- hd] at hc1
  have HG : Hid (goodB neg l = (decide (n <= 40) && decide (d ≠ 0))) := by
   unfold Hid goodB; rw [hn, <- hd]
   simp [show ¬ n = 0 from h0, show 0 < n by omega]
  clear hd hc hn hrd hdg
  by_cases h40 : n <= 40
  ·go_enter Tryz.func108, Tryz.ntmps108
   go_wp2
   go_ret
   exact ⟨by rw [HG.out]; apply ret_bool; simp [h40, bne_nat], by exact (Below.refl _ _).alloc (Nat.le_refl _) _⟩
  ·go_enter Tryz.func108, Tryz.ntmps108
   go_wp2
   go_ret
   exact ⟨by rw [HG.out]; apply ret_bool; simp [h40, bne_nat], by exact (Below.refl _ _).alloc (Nat.le_refl _) _⟩
set_option maxHeartbeats 400000 in
theorem trim_any (ao : Option Addr) (n cap : Nat) (l : List Nat) (w : World) (R : Row .u32 B32 w ao n cap l) :
  Calls Tryz.prog 110 #[.slice ao n cap] w fun e w' => ∃ m, m <= n /\ e = .returned (.slice ao m m) /\ w' = w /\ Tr (l.take m) /\ val B32 (l.take m) = val B32 l := by
 obtain ⟨hn, hcap, hmax, _, hdg, hrd⟩ := R
 unfold maxLen at hmax
 have HN : Hid (l.length = n) := hn
 clear hn hdg
 go_enter Tryz.func110, Tryz.ntmps110
 go_wp2
 go_loop [3] (fun t => ∃ m : Nat, m <= n /\ t = .int .i64 m /\ Hid (val B32 (l.take m) = val B32 l)) (fun t => (intOf t).toNat)
 case atStart => exact ⟨n, Nat.le_refl _, rfl, by unfold Hid; rw [List.take_of_length_le (by rw [HN.out]; exact Nat.le_refl _)]⟩
 case round =>
  obtain ⟨m, hm, rfl, hv⟩ := hrel
  by_cases hz : m = 0
  ·subst hz
   go_wp2
   go_ret
   exact ⟨0, Nat.zero_le _, rfl, rfl, .inl (by simp), hv.out⟩
  ·obtain ⟨b, o, rfl, hl, hc⟩ := hrd.some (by rw [HN.out]; omega)
   have hc1 := hc (m - 1) (by rw [HN.out]; omega)
   obtain ⟨d, hd⟩ : ∃ d, d = l.getD (m - 1) 0 := ⟨_, rfl⟩
   rw [<- hd] at hc1
   have HD : Hid (d = l.getD (m - 1) 0) := hd
   clear hd hc hrd
   have hpos : (0 : Int) < m := by omega
   by_cases hd0 : d = 0
   ·subst hd0
    go_wp2
    go_round
    case rel => exact ⟨m - 1, by omega, by go_num, by
     unfold Hid
     rw [<- hv.out]
     have := val_take_zero B32 l (m - 1) (by rw [HN.out]; omega) HD.out.symm
     rw [show m - 1 + 1 = m by omega] at this
     exact this.symm⟩
    case measure => simp [intOf]; omega
   ·have hne : ((d : Int) == 0) = false := by simp; omega
    go_wp2
    go_ret
    exact ⟨m, hm, rfl, rfl, Tr.take_of (by rw [HN.out]; exact hm) (.inr (by rw [<- HD.out]; exact hd0)), hv.out⟩
end Go.Proofs.YtbkfinjajkjhaaaGreatDoor
namespace Go.Proofs.YtbkfinjajkjhaaaGreatDoor
open Go.RowKit
set_option maxHeartbeats 400000 in
theorem whole_any (neg : Bool) (ao : Option Addr) (n cap : Nat) (l : List Nat) (w : World) (R : Row .u32 B32 w ao n cap l) :
  Calls Tryz.prog 107 #[.bool neg, .slice ao n cap] w fun e w' => ∃ x l', e = .returned x /\ IntIs w' x (neg && decide (l' ≠ [])) l' /\ Tr l' /\ val B32 l' = val B32 l /\ l'.length <= n /\ Below w.heap.size w w' := by
 go_enter Tryz.func107, Tryz.ntmps107
 go_wp2_with fail
 refine (trim_any ao n cap l _ (R.below (Ba _ _))).mono ?_
 rintro e w1 ⟨m, hm, rfl, rfl, ht, hv⟩
 have R2 := R.take hm m (Nat.le_refl _) (Nat.le_trans hm R.fits)
 have hmn := R.most
 have hmc := R.fits
 unfold maxLen at hmn
 have hl := R.len
 have HR := hid R2
 have HT := hid ht
 have HV := hid hv
 have HL := hid hl
 clear R R2 ht hv hl
 by_cases h0 : m = 0
 ·subst h0
  go_wp2
  refine bodyPost_ret (v := .agg #[.bool false, .slice none 0 0]) (by simp [results, Tryz.results107, go_sem]) rfl ⟨_, [], rfl, ⟨none, 0, 0, by simp, Row.nil _ _ _ _⟩, Tr.nil, ?_, by simp, Ba _ _⟩
  rw [<- HV.out]; simp
 ·have e0 : ((m : Int) == 0) = false := by simp; omega
  go_wp2
  refine bodyPost_ret (v := .agg #[.bool neg, .slice ao m m]) (by simp [results, Tryz.results107, go_sem]) rfl ⟨_, l.take m, rfl, ⟨ao, m, m, ?_, HR.out.below (Ba _ _)⟩, HT.out, HV.out, by rw [List.length_take]; omega, Ba _ _⟩
  have hne : l.take m ≠ [] := by
   intro e
   have := congrArg List.length e
   rw [List.length_take, HL.out] at this
   simp at this; omega
  simp [hne]
theorem ret_i64 {a b : Int} (h : a = b) : Ending.returned (.int .i64 a) = .returned (.int .i64 b) := by rw [h]
end Go.Proofs.YtbkfinjajkjhaaaGreatDoor
