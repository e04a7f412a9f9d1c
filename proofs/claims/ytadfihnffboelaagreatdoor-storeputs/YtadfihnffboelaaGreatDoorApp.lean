import Derived.WalkKit
import Derived.WalkSpells
import Derived.WalkLawsBesides
import Derived.Deep.OwnRows
import Derived.Deep.Draws
import Derived.Test.YtadfihnffboelaaGreatDoorProg
import Derived.BigQuiet
import Derived.Deep.QuietTactic
import Derived.Laws.BitsAllLaws
import Derived.Deep.AppendLies
import Derived.Laws.AppendOwnNone
set_option linter.unusedVariables false
set_option linter.unusedSimpArgs false
namespace Go.Proofs.YtadfihnffboelaaGreatDoor
def val (B : Nat) : List Nat -> Nat
 | [] => 0
 | x :: r => x + B * val B r
def Dg (B : Nat) (l : List Nat) : Prop := ∀ x ∈ l, x < B
def Tr (l : List Nat) : Prop := l = [] \/ l.getD (l.length - 1) 0 ≠ 0
theorem qw (B x : Nat) (r : List Nat) : val B (x :: r) = x + B * val B r := rfl
theorem zaf (B : Nat) (l r : List Nat) : val B (l ++ r) = val B l + B ^ l.length * val B r := by
 induction l with
 | nil => simp [val]
 | cons x l ih => simp only [List.cons_append, qw, ih, List.length_cons, Nat.pow_succ]; rw [Nat.mul_add]; rw [Nat.mul_comm (B ^ l.length) B, Nat.mul_assoc]; omega
theorem xg (B : Nat) (l : List Nat) (x : Nat) : val B (l ++ [x]) = val B l + B ^ l.length * x := by rw [zaf]; simp [val]
theorem fh (l : List Nat) (k : Nat) (h : k < l.length) : l.take (k + 1) = l.take k ++ [l.getD k 0] := by
 rw [List.take_succ_eq_append_getElem h, List.getD_eq_getElem?_getD, List.getElem?_eq_getElem h]; rfl
theorem fi (l : List Nat) (k : Nat) (h : k < l.length) : l.drop k = l.getD k 0 :: l.drop (k + 1) := by
 rw [List.drop_eq_getElem_cons h, List.getD_eq_getElem?_getD, List.getElem?_eq_getElem h]; rfl
theorem j9 (B : Nat) (l : List Nat) (k : Nat) (h : k < l.length) : val B (l.take (k + 1)) = val B (l.take k) + B ^ k * l.getD k 0 := by
 rw [fh l k h, xg, List.length_take, Nat.min_eq_left (Nat.le_of_lt h)]
theorem zbr (B : Nat) (l : List Nat) (k : Nat) (h : k < l.length) : val B (l.drop k) = l.getD k 0 + B * val B (l.drop (k + 1)) := by
 rw [fi l k h, qw]
theorem zqv (B : Nat) (l : List Nat) (k : Nat) (h : k <= l.length) : val B l = val B (l.take k) + B ^ k * val B (l.drop k) := by
 have := zaf B (l.take k) (l.drop k)
 rw [List.take_append_drop, List.length_take, Nat.min_eq_left h] at this
 exact this
theorem Dg.take {B : Nat} {l : List Nat} (h : Dg B l) (k : Nat) : Dg B (l.take k) := fun x hx => h x (List.mem_of_mem_take hx)
theorem Dg.drop {B : Nat} {l : List Nat} (h : Dg B l) (k : Nat) : Dg B (l.drop k) := fun x hx => h x (List.mem_of_mem_drop hx)
theorem Dg.append {B : Nat} {l r : List Nat} (h : Dg B l) (k : Dg B r) : Dg B (l ++ r) := fun x hx => (List.mem_append.1 hx).elim (h x) (k x)
theorem Dg.nil (B : Nat) : Dg B [] := fun x hx => by cases hx
theorem Dg.one {B x : Nat} (h : x < B) : Dg B [x] := fun y hy => by simp at hy; omega
theorem zdj {l : List Nat} {k : Nat} (h : k < l.length) : l.getD k 0 ∈ l := by
 rw [List.getD_eq_getElem?_getD, List.getElem?_eq_getElem h]; exact List.getElem_mem h
theorem Dg.getD {B : Nat} {l : List Nat} (h : Dg B l) (k : Nat) (hk : k < l.length) : l.getD k 0 < B := h _ (zdj hk)
theorem zau {B : Nat} {l : List Nat} (h : Dg B l) : val B l < B ^ l.length := by
 induction l with
 | nil => simp [val]
 | cons x l ih =>
  have h1 : x < B := h x (by simp)
  have h2 := ih (fun y hy => h y (by simp [hy]))
  rw [qw, List.length_cons, Nat.pow_succ, Nat.mul_comm (B ^ l.length) B]
  have h3 : B * (val B l + 1) <= B * B ^ l.length := Nat.mul_le_mul_left B h2
  rw [Nat.mul_add] at h3
  omega
theorem Tr.nil : Tr [] := .inl rfl
theorem Tr.pos {B : Nat} (hB : 0 < B) {l : List Nat} (h : Tr l) (hl : l ≠ []) : B ^ (l.length - 1) <= val B l := by
 have hn : l.length - 1 < l.length := by cases l with | nil => exact absurd rfl hl | cons => simp
 have hd : l.getD (l.length - 1) 0 ≠ 0 := h.resolve_left hl
 rw [zqv B l (l.length - 1) (by omega), zbr B l _ hn]
 have : B ^ (l.length - 1) * 1 <= B ^ (l.length - 1) * (l.getD (l.length - 1) 0 + B * val B (l.drop (l.length - 1 + 1))) := Nat.mul_le_mul_left _ (by omega)
 omega
theorem Tr.ne_zero {B : Nat} (hB : 0 < B) {l : List Nat} (h : Tr l) (hl : l ≠ []) : val B l ≠ 0 := by
 have := h.pos hB hl
 have := Nat.pow_pos (n := l.length - 1) hB
 omega
theorem Tr.zero {B : Nat} (hB : 0 < B) {l : List Nat} (h : Tr l) (hv : val B l = 0) : l = [] := by
 apply Classical.byContradiction; intro hl; exact h.ne_zero hB hl hv
theorem Tr.zero_iff {B : Nat} (hB : 0 < B) {l : List Nat} (h : Tr l) : val B l = 0 ↔ l.length = 0 := by
 constructor
 ·intro hv; rw [h.zero hB hv]; rfl
 ·intro hv; rw [List.length_eq_zero_iff.1 hv]; rfl
theorem fc {B n : Nat} (hB : 1 < B) {a : List Nat} (ta : Tr a) (h : val B a < B ^ n) : a.length <= n := by
 apply Classical.byContradiction; intro hl
 have h2 := ta.pos (B := B) (by omega) (by intro e; simp [e] at hl)
 have h3 : B ^ n <= B ^ (a.length - 1) := Nat.pow_le_pow_right (by omega) (by omega)
 omega
theorem zok {B n : Nat} (hB : 1 < B) {a : List Nat} (ha : Dg B a) (ta : Tr a) : a.length <= n ↔ val B a < B ^ n := by
 constructor
 ·intro h
  have h1 := zau ha
  have h3 : B ^ a.length <= B ^ n := Nat.pow_le_pow_right (by omega) h
  omega
 ·exact fc hB ta
theorem x4 (B : Nat) (l : List Nat) (k : Nat) (h : k < l.length) (h0 : l.getD k 0 = 0) : val B (l.take (k + 1)) = val B (l.take k) := by
 rw [j9 B l k h, h0]; simp
theorem Tr.take_of {l : List Nat} {m : Nat} (hm : m <= l.length) (h : m = 0 \/ l.getD (m - 1) 0 ≠ 0) : Tr (l.take m) := by
 by_cases h0 : m = 0
 ·subst h0; exact .inl (by simp)
 ·refine .inr ?_
  rw [List.length_take, Nat.min_eq_left hm, List.getD_eq_getElem?_getD, List.getElem?_take, if_pos (by omega), <- List.getD_eq_getElem?_getD]
  rcases h with h | h
  ·exact absurd h h0
  ·exact h
theorem zbs {l : List Nat} {m i : Nat} (h : i < m) : (l.take m).getD i 0 = l.getD i 0 := by
 rw [List.getD_eq_getElem?_getD, List.getElem?_take, if_pos h, <- List.getD_eq_getElem?_getD]
theorem fd {l r : List Nat} {i : Nat} (h : i < l.length) : (l ++ r).getD i 0 = l.getD i 0 := by
 rw [List.getD_eq_getElem?_getD, List.getElem?_append_left h, <- List.getD_eq_getElem?_getD]
theorem zav {l : List Nat} {x : Nat} {i : Nat} (h : i = l.length) : (l ++ [x]).getD i 0 = x := by
 subst h; rw [List.getD_eq_getElem?_getD]; simp
end Go.Proofs.YtadfihnffboelaaGreatDoor
namespace Go.Proofs.YtadfihnffboelaaGreatDoor
open Go.RowKit
theorem hid {p : Prop} (h : p) : Hid p := h
def Rd (k : IntKind) (w : World) (ao : Option Addr) (l : List Nat) : Prop :=
 l = [] \/ ∃ b o, ao = some ⟨b, o, none⟩ /\ b < w.heap.size /\ ∀ i, i < l.length -> w.cell? ⟨b, o + i, none⟩ = some (.int k (l.getD i 0 : Nat))
structure Row (k : IntKind) (B : Nat) (w : World) (ao : Option Addr) (n cap : Nat) (l : List Nat) : Prop where
 len : l.length = n
 fits : n <= cap
 most : cap <= maxLen
 nil_ : ao = none -> cap = 0
 dg : Dg B l
 rd : Rd k w ao l
theorem Rd.some {k : IntKind} {w : World} {ao : Option Addr} {l : List Nat} (h : Rd k w ao l) (hl : 0 < l.length) :
  ∃ b o, ao = some ⟨b, o, none⟩ /\ b < w.heap.size /\ ∀ i, i < l.length -> w.cell? ⟨b, o + i, none⟩ = some (.int k (l.getD i 0 : Nat)) := by
 rcases h with h | h
 ·simp [h] at hl
 ·exact h
theorem Rd.below {k : IntKind} {w w' : World} {ao : Option Addr} {l : List Nat} (h : Rd k w ao l) (hb : Below w.heap.size w w') : Rd k w' ao l := by
 rcases h with h | ⟨b, o, e, hl, hc⟩
 ·exact .inl h
 ·exact .inr ⟨b, o, e, Nat.lt_of_lt_of_le hl hb.size, fun i hi => (hb.cell (p := ⟨b, o + i, none⟩) hl).trans (hc i hi)⟩
theorem Rd.take {k : IntKind} {w : World} {ao : Option Addr} {l : List Nat} (h : Rd k w ao l) (m : Nat) : Rd k w ao (l.take m) := by
 rcases h with h | ⟨b, o, e, hl, hc⟩
 ·exact .inl (by simp [h])
 ·refine .inr ⟨b, o, e, hl, fun i hi => ?_⟩
  rw [List.length_take] at hi
  rw [zbs (by omega)]
  exact hc i (by omega)
theorem Row.below {k : IntKind} {B : Nat} {w w' : World} {ao : Option Addr} {n cap : Nat} {l : List Nat} (h : Row k B w ao n cap l) (hb : Below w.heap.size w w') : Row k B w' ao n cap l :=
 ⟨h.len, h.fits, h.most, h.nil_, h.dg, h.rd.below hb⟩
theorem Row.take {k : IntKind} {B : Nat} {w : World} {ao : Option Addr} {n cap m : Nat} {l : List Nat} (h : Row k B w ao n cap l) (hm : m <= n) (cap' : Nat) (h1 : m <= cap') (h2 : cap' <= cap) : Row k B w ao m cap' (l.take m) :=
 ⟨by rw [List.length_take, h.len, Nat.min_eq_left hm], h1, Nat.le_trans h2 h.most, fun e => by have := h.nil_ e; omega, h.dg.take m, h.rd.take m⟩
theorem Row.nil (k : IntKind) (B : Nat) (w : World) (ao : Option Addr) : Row k B w ao 0 0 [] := ⟨rfl, Nat.le_refl _, Nat.zero_le _, fun _ => rfl, Dg.nil B, .inl rfl⟩
theorem Ba (w : World) (o : Obj) : Below w.heap.size w (w.alloc o) := (Below.refl _ _).alloc (Nat.le_refl _) o
theorem Bd (w : World) (k : Nat) : Below w.heap.size w (w.drewN k) := ⟨rfl, rfl, rfl, Nat.le_refl _, fun _ _ => rfl⟩
theorem Bt {w w1 w2 : World} (h1 : Below w.heap.size w w1) (h2 : Below w1.heap.size w1 w2) : Below w.heap.size w w2 := h1.trans (h2.mono h1.size)
theorem Baa (w : World) (o o2 : Obj) : Below w.heap.size w ((w.alloc o).alloc o2) := Bt (Ba w o) (Ba _ o2)
theorem Baaa (w : World) (o o2 o3 : Obj) : Below w.heap.size w (((w.alloc o).alloc o2).alloc o3) := Bt (Baa w o o2) (Ba _ o3)
theorem zw (w : World) (o : Obj) (b i : Nat) (hb : b < w.heap.size) : (w.alloc o).cell? ⟨b, i, none⟩ = w.cell? ⟨b, i, none⟩ := World.cell?_alloc_past _ _ _ hb
theorem zb (w : World) (o : Obj) : (w.alloc o).heap.size = w.heap.size + 1 := by simp
def B32 : Nat := 4294967296
theorem zqw (d : Nat) : ((d : Int) != 0) = !decide (d = 0) := by
 by_cases h : d = 0
 ·subst h; rfl
 ·have : ((d : Int) != 0) = true := by rw [bne_iff_ne]; omega
  rw [this]; simp [h]
def zvr (w : World) (x : Value) (neg : Bool) (l : List Nat) : Prop := ∃ ao n cap, x = .agg #[.bool neg, .slice ao n cap] /\ Row .u32 B32 w ao n cap l
def qa (neg : Bool) (l : List Nat) : Bool := (decide (l.length = 0) && !neg) || (decide (0 < l.length) && decide (l.length <= 40) && decide (l.getD (l.length - 1) 0 ≠ 0))
theorem xh {neg : Bool} {l : List Nat} (h : qa neg l = true) : Tr l := by
 unfold qa at h
 by_cases h0 : l.length = 0
 ·exact .inl (List.length_eq_zero_iff.1 h0)
 ·simp [h0] at h
  exact .inr (by simpa using h.2)
theorem zdt {neg : Bool} {l : List Nat} (h : qa neg l = true) : l.length <= 40 := by
 unfold qa at h
 by_cases h0 : l.length = 0
 ·omega
 ·simp [h0] at h; omega
theorem zix {neg : Bool} {l : List Nat} (h : qa neg l = true) (h0 : l.length = 0) : neg = false := by
 unfold qa at h
 simp [h0] at h; exact h
theorem zvs {neg : Bool} {l : List Nat} (ht : Tr l) (hl : l.length <= 40) (hn : l.length = 0 -> neg = false) : qa neg l = true := by
 unfold qa
 by_cases h0 : l.length = 0
 ·simp [h0, hn h0]
 ·have : l.getD (l.length - 1) 0 ≠ 0 := ht.resolve_left (fun e => h0 (by simp [e]))
  simp only [h0, this, hl, decide_true, decide_false, Bool.false_and, Bool.false_or, ne_eq, not_false_eq_true, Bool.and_true, decide_eq_true_eq]
  omega
end Go.Proofs.YtadfihnffboelaaGreatDoor
namespace Go.Proofs.YtadfihnffboelaaGreatDoor
open Go.RowKit
theorem zag {a b : Bool} (h : a = b) : Ending.returned (.bool a) = .returned (.bool b) := by rw [h]
set_option maxHeartbeats 400000 in
theorem zdk (neg : Bool) (ao : Option Addr) (n cap : Nat) (l : List Nat) (w : World) (R : Row .u32 B32 w ao n cap l) :
  Calls Tryz.prog 180 #[.agg #[.bool neg, .slice ao n cap]] w fun e w' => e = .returned (.bool (qa neg l)) /\ Below w.heap.size w w' := by
 obtain ⟨hn, hcap, hmax, _, hdg, hrd⟩ := R
 unfold maxLen at hmax
 by_cases h0 : n = 0
 ·subst h0
  go_enter Tryz.func180, Tryz.ntmps180
  go_wp2
  go_ret
  exact ⟨by simp [qa, hn], by exact (Below.refl _ _).alloc (Nat.le_refl _) _⟩
 ·obtain ⟨b, o, rfl, hl, hc⟩ := hrd.some (by omega)
  have hc1 := hc (n - 1) (by omega)
  have e0 : ((n : Int) == 0) = false := by simp; omega
  obtain ⟨d, hd⟩ : ∃ d, d = l.getD (n - 1) 0 := ⟨_, rfl⟩
  rw [<- hd] at hc1
  have HG : Hid (qa neg l = (decide (n <= 40) && decide (d ≠ 0))) := by
   unfold Hid qa; rw [hn, <- hd]
   simp [show ¬ n = 0 from h0, show 0 < n by omega]
  clear hd hc hn hrd hdg
  by_cases h40 : n <= 40
  ·go_enter Tryz.func180, Tryz.ntmps180
   go_wp2
   go_ret
   exact ⟨by rw [HG.out]; apply zag; simp [h40, zqw], by exact (Below.refl _ _).alloc (Nat.le_refl _) _⟩
  ·go_enter Tryz.func180, Tryz.ntmps180
   go_wp2
   go_ret
   exact ⟨by rw [HG.out]; apply zag; simp [h40, zqw], by exact (Below.refl _ _).alloc (Nat.le_refl _) _⟩
set_option maxHeartbeats 400000 in
theorem zmy (ao : Option Addr) (n cap : Nat) (l : List Nat) (w : World) (R : Row .u32 B32 w ao n cap l) :
  Calls Tryz.prog 182 #[.slice ao n cap] w fun e w' => ∃ m, m <= n /\ e = .returned (.slice ao m m) /\ w' = w /\ Tr (l.take m) /\ val B32 (l.take m) = val B32 l := by
 obtain ⟨hn, hcap, hmax, _, hdg, hrd⟩ := R
 unfold maxLen at hmax
 have HN : Hid (l.length = n) := hn
 clear hn hdg
 go_enter Tryz.func182, Tryz.ntmps182
 go_wp2
 go_loop [3] (fun t => ∃ m : Nat, m <= n /\ t = .int .i64 m /\ Hid (val B32 (l.take m) = val B32 l)) (fun t => (intOf t).toNat)
 case atStart => exact ⟨n, Nat.le_refl _, rfl, by unfold Hid; rw [List.take_of_length_le (by rw [HN.out]; exact Nat.le_refl _)]⟩
 case round =>
  obtain ⟨m, hm, rfl, hv⟩ := hrel
  by_cases hz : m = 0
  ·subst hz
   go_wp2
   go_ret
   exact ⟨0, Nat.zero_le _, rfl, rfl, .inl (by simp), hv.out⟩
  ·obtain ⟨b, o, rfl, hl, hc⟩ := hrd.some (by rw [HN.out]; omega)
   have hc1 := hc (m - 1) (by rw [HN.out]; omega)
   obtain ⟨d, hd⟩ : ∃ d, d = l.getD (m - 1) 0 := ⟨_, rfl⟩
   rw [<- hd] at hc1
   have HD : Hid (d = l.getD (m - 1) 0) := hd
   clear hd hc hrd
   have hpos : (0 : Int) < m := by omega
   by_cases hd0 : d = 0
   ·subst hd0
    go_wp2
    go_round
    case rel => exact ⟨m - 1, by omega, by go_num, by
     unfold Hid
     rw [<- hv.out]
     have := x4 B32 l (m - 1) (by rw [HN.out]; omega) HD.out.symm
     rw [show m - 1 + 1 = m by omega] at this
     exact this.symm⟩
    case measure => simp [intOf]; omega
   ·have hne : ((d : Int) == 0) = false := by simp; omega
    go_wp2
    go_ret
    exact ⟨m, hm, rfl, rfl, Tr.take_of (by rw [HN.out]; exact hm) (.inr (by rw [<- HD.out]; exact hd0)), hv.out⟩
end Go.Proofs.YtadfihnffboelaaGreatDoor
namespace Go.Proofs.YtadfihnffboelaaGreatDoor
open Go.RowKit
set_option maxHeartbeats 400000 in
theorem zqx (neg : Bool) (ao : Option Addr) (n cap : Nat) (l : List Nat) (w : World) (R : Row .u32 B32 w ao n cap l) :
  Calls Tryz.prog 175 #[.bool neg, .slice ao n cap] w fun e w' => ∃ x l', e = .returned x /\ zvr w' x (neg && decide (l' ≠ [])) l' /\ Tr l' /\ val B32 l' = val B32 l /\ l'.length <= n /\ Below w.heap.size w w' := by
 go_enter Tryz.func175, Tryz.ntmps175
 go_wp2_with fail
 refine (zmy ao n cap l _ (R.below (Ba _ _))).mono ?_
 rintro e w1 ⟨m, hm, rfl, rfl, ht, hv⟩
 have R2 := R.take hm m (Nat.le_refl _) (Nat.le_trans hm R.fits)
 have hmn := R.most
 have hmc := R.fits
 unfold maxLen at hmn
 have hl := R.len
 have HR := hid R2
 have HT := hid ht
 have HV := hid hv
 have HL := hid hl
 clear R R2 ht hv hl
 by_cases h0 : m = 0
 ·subst h0
  go_wp2
  refine bodyPost_ret (v := .agg #[.bool false, .slice none 0 0]) (by simp [results, Tryz.results175, go_sem]) rfl ⟨_, [], rfl, ⟨none, 0, 0, by simp, Row.nil _ _ _ _⟩, Tr.nil, ?_, by simp, Ba _ _⟩
  rw [<- HV.out]; simp
 ·have e0 : ((m : Int) == 0) = false := by simp; omega
  go_wp2
  refine bodyPost_ret (v := .agg #[.bool neg, .slice ao m m]) (by simp [results, Tryz.results175, go_sem]) rfl ⟨_, l.take m, rfl, ⟨ao, m, m, ?_, HR.out.below (Ba _ _)⟩, HT.out, HV.out, by rw [List.length_take]; omega, Ba _ _⟩
  have hne : l.take m ≠ [] := by
   intro e
   have := congrArg List.length e
   rw [List.length_take, HL.out] at this
   simp at this; omega
  simp [hne]
theorem fj {a b : Int} (h : a = b) : Ending.returned (.int .i64 a) = .returned (.int .i64 b) := by rw [h]
end Go.Proofs.YtadfihnffboelaaGreatDoor
namespace Go.Proofs.YtadfihnffboelaaGreatDoor
open Go.RowKit
structure Win (k : IntKind) (e : TypeId) (w : World) (g o n : Nat) (cur : Array Value) (l : List Nat) : Prop where
 blk : w.heap[g]? = some (.cells cur e (0, 0))
 fits : o + n <= cur.size
 len : l.length = n
 at_ : ∀ i, i < n -> cur[o + i]? = some (.int k (l.getD i 0 : Nat))
structure Onto (k : IntKind) (e : TypeId) (g o n : Nat) (w w' : World) (cur : Array Value) (l : List Nat) : Prop where
 os : w'.os = w.os
 tape : w'.tape = w.tape
 output : w'.output = w.output
 size : w'.heap.size = w.heap.size
 block : ∀ j, j ≠ g -> w'.heap[j]? = w.heap[j]?
 row : ∃ cur', Win k e w' g o n cur' l /\ cur'.size = cur.size /\ ∀ j, (j < o \/ o + n <= j) -> cur'[j]? = cur[j]?
variable {k : IntKind} {e : TypeId} {g o n : Nat} {w w' w'' : World} {cur : Array Value} {l : List Nat}
theorem Win.cell (h : Win k e w g o n cur l) {i : Nat} (hi : i < n) : w.cell? ⟨g, o + i, none⟩ = some (.int k (l.getD i 0 : Nat)) := by
 simp [World.cell?, h.blk, h.at_ i hi]
theorem Win.frozen (h : Win k e w g o n cur l) (i : Nat) : w.frozen? ⟨g, i, none⟩ = false := by simp [World.frozen?, h.blk]
theorem Win.lt (h : Win k e w g o n cur l) : g < w.heap.size := (Array.getElem?_eq_some_iff.1 h.blk).1
theorem Win.onto (h : Win k e w g o n cur l) : Onto k e g o n w w cur l := ⟨rfl, rfl, rfl, rfl, fun _ _ => rfl, cur, h, rfl, fun _ _ => rfl⟩
theorem Win.rd (h : Win k e w g o n cur l) : Rd k w (some ⟨g, o, none⟩) l := .inr ⟨g, o, rfl, h.lt, fun i hi => h.cell (by rw [<- h.len]; exact hi)⟩
theorem Onto.cell (h : Onto k e g o n w w' cur l) {i : Nat} (hi : i < n) : w'.cell? ⟨g, o + i, none⟩ = some (.int k (l.getD i 0 : Nat)) := by
 obtain ⟨c, hw, _⟩ := h.row; exact hw.cell hi
theorem Onto.frozen (h : Onto k e g o n w w' cur l) (i : Nat) : w'.frozen? ⟨g, i, none⟩ = false := by
 obtain ⟨c, hw, _⟩ := h.row; exact hw.frozen i
theorem Onto.len (h : Onto k e g o n w w' cur l) : l.length = n := by
 obtain ⟨c, hw, _⟩ := h.row; exact hw.len
theorem Onto.drewN (h : Onto k e g o n w w' cur l) (q : Nat) : Onto k e g o n w (w'.drewN q) cur l := by
 obtain ⟨c, hw, h1, h2⟩ := h.row
 exact ⟨h.os, h.tape, h.output, h.size, h.block, c, ⟨hw.blk, hw.fits, hw.len, hw.at_⟩, h1, h2⟩
theorem zha {l : List Nat} {i j x : Nat} (hi : i < l.length) : (l.set i x).getD j 0 = if j = i then x else l.getD j 0 := by
 rw [List.getD_eq_getElem?_getD, List.getElem?_set]
 by_cases h : i = j
 ·subst h; simp [hi]
 ·rw [if_neg h, if_neg (fun e => h e.symm), <- List.getD_eq_getElem?_getD]
theorem Onto.store (h : Onto k e g o n w w' cur l) {i : Nat} (hi : i < n) (x : Nat) : Onto k e g o n w (w'.setCell ⟨g, o + i, none⟩ (.int k x)) cur (l.set i x) := by
 obtain ⟨c, hw, h1, h2⟩ := h.row
 have hb : (w'.setCell ⟨g, o + i, none⟩ (.int k x)).heap[g]? = some (.cells (c.setIfInBounds (o + i) (.int k x)) e (0, 0)) := by
  simp [World.setCell, Array.getElem?_modify, hw.blk]
 refine ⟨h.os, h.tape, h.output, by rw [<- h.size]; simp [World.setCell], fun j hj => ?_, c.setIfInBounds (o + i) (.int k x), ⟨hb, by simpa using hw.fits, by simpa using hw.len, fun j hj => ?_⟩, by simpa using h1, fun j hj => ?_⟩
 ·rw [<- h.block j hj]; exact Below.heap_setCell _ _ _ _ hj
 ·have := hw.fits
  rw [Array.getElem?_setIfInBounds, zha (by rw [hw.len]; exact hi)]
  by_cases e1 : j = i
  ·subst e1; simp; omega
  ·rw [if_neg (by omega), if_neg e1]; exact hw.at_ j hj
 ·rw [Array.getElem?_setIfInBounds, if_neg (by omega)]; exact h2 j hj
theorem Onto.below (h : Onto k e g o n w w' cur l) {B : Nat} (hB : B <= g) : Below B w w' := ⟨h.os, h.tape, h.output, Nat.le_of_eq h.size.symm, fun j hj => h.block j (by omega)⟩
theorem Onto.congr (h : Onto k e g o n w w' cur l) {l2 : List Nat} (e2 : l = l2) : Onto k e g o n w w' cur l2 := e2 ▸ h
structure Own (k : IntKind) (e : TypeId) (B base : Nat) (w : World) (ao : Option Addr) (n cap : Nat) (l : List Nat) : Prop where
 row : Row k B w ao n cap l
 own : n = 0 \/ ∃ g cur, ao = some ⟨g, 0, none⟩ /\ base <= g /\ Win k e w g 0 n cur l
end Go.Proofs.YtadfihnffboelaaGreatDoor
namespace Go.Proofs.YtadfihnffboelaaGreatDoor
open Go.RowKit
def cs (k : IntKind) (l : List Nat) : List Value := l.map fun (x : Nat) => Value.int k (x : Int)
theorem qx (k : IntKind) (l : List Nat) : (cs k l).length = l.length := by simp [cs]
theorem ziy (k : IntKind) (l r : List Nat) : cs k (l ++ r) = cs k l ++ cs k r := by simp [cs]
theorem zbw1 {k : IntKind} {l : List Nat} {j : Nat} {u : Value} (h : (cs k l)[j]? = some u) : j < l.length /\ u = .int k (l.getD j 0 : Nat) := by
 unfold cs at h
 rw [List.getElem?_map] at h
 by_cases hj : j < l.length
 ·rw [List.getElem?_eq_getElem hj] at h
  refine ⟨hj, ?_⟩
  rw [List.getD_eq_getElem?_getD, List.getElem?_eq_getElem hj]
  simp at h
  exact h.symm
 ·rw [List.getElem?_eq_none (by omega)] at h; simp at h
theorem zdu {k : IntKind} {l : List Nat} {j : Nat} (hj : j < l.length) : (cs k l)[j]? = some (.int k (l.getD j 0 : Nat)) := by
 unfold cs
 rw [List.getElem?_map, List.getD_eq_getElem?_getD, List.getElem?_eq_getElem hj]; rfl
theorem zbx1 (k : IntKind) (l : List Nat) : ∀ u ∈ cs k l, u.oneCell' = true := by
 intro u hu
 unfold cs at hu
 obtain ⟨x, _, rfl⟩ := List.mem_map.1 hu
 rfl
theorem xt {w : World} {base : Nat} {e : TypeId} {v : Value} {n : Nat} {k : IntKind} {l : List Nat} {B : Nat} (h : w.ownsRow base e 1 v n (cs k l)) (hd : Dg B l) :
  ∃ ao cap, v = .slice ao n cap /\ Own k e B base w ao n cap l := by
 have hn : l.length = n := by have := h.1; rw [qx] at this; omega
 rcases h.2 with ⟨rfl, h0⟩ | ⟨g, cap, cur, rfl, hb, hg, hle, hm, hsz, htk⟩
 ·subst h0
  have : l = [] := List.length_eq_zero_iff.1 hn
  subst this
  exact ⟨none, 0, rfl, Row.nil _ _ _ _, .inl rfl⟩
 ·have hwin : Win k e w g 0 n cur l := by
   refine ⟨hg, by omega, hn, fun i hi => ?_⟩
   have h1 : (cs k l)[i]? = some (.int k (l.getD i 0 : Nat)) := zdu (by omega)
   rw [<- htk, List.getElem?_take, if_pos (by omega)] at h1
   rw [Nat.zero_add, <- Array.getElem?_toList]; exact h1
  exact ⟨some ⟨g, 0, none⟩, cap, rfl, ⟨hn, hle, hm, fun h => (by cases h), hd, hwin.rd⟩, .inr ⟨g, cur, rfl, hb, hwin⟩⟩
theorem Own.nil (k : IntKind) (e : TypeId) (B base : Nat) (w : World) (ao : Option Addr) : Own k e B base w ao 0 0 [] := ⟨Row.nil _ _ _ _, .inl rfl⟩
theorem Own.base {k : IntKind} {e : TypeId} {B base base' : Nat} {w : World} {ao : Option Addr} {n cap : Nat} {l : List Nat} (h : Own k e B base w ao n cap l) (hb : base' <= base) : Own k e B base' w ao n cap l :=
 ⟨h.row, h.own.imp id fun ⟨g, cur, h1, h2, h3⟩ => ⟨g, cur, h1, Nat.le_trans hb h2, h3⟩⟩
theorem Win.below {k : IntKind} {e : TypeId} {w w' : World} {g o n : Nat} {cur : Array Value} {l : List Nat} (h : Win k e w g o n cur l) (hb : Below w.heap.size w w') : Win k e w' g o n cur l :=
 ⟨(hb.block g h.lt).trans h.blk, h.fits, h.len, h.at_⟩
theorem Win.on {k : IntKind} {e : TypeId} {w w' : World} {g o n B : Nat} {cur : Array Value} {l : List Nat} (h : Win k e w g o n cur l) (hb : Below B w w') (hg : g < B) : Win k e w' g o n cur l :=
 ⟨(hb.block g hg).trans h.blk, h.fits, h.len, h.at_⟩
theorem Win.take {k : IntKind} {e : TypeId} {w : World} {g o n m : Nat} {cur : Array Value} {l : List Nat} (h : Win k e w g o n cur l) (hm : m <= n) : Win k e w g o m cur (l.take m) :=
 ⟨h.blk, by have := h.fits; omega, by rw [List.length_take, h.len, Nat.min_eq_left hm], fun i hi => by rw [zbs hi]; exact h.at_ i (by omega)⟩
theorem Own.setFar {k : IntKind} {e : TypeId} {B base : Nat} {w : World} {ao : Option Addr} {n cap : Nat} {l : List Nat} (h : Own k e B base w ao n cap l) {p : Addr} (hp : p.block < base) (v : Value) : Own k e B base (w.setCell p v) ao n cap l := by
 rcases h.own with h0 | ⟨g, cur, h1, h2, h3⟩
 ·have hl : l = [] := List.length_eq_zero_iff.1 (by rw [h.row.len, h0])
  exact ⟨⟨h.row.len, h.row.fits, h.row.most, h.row.nil_, h.row.dg, .inl hl⟩, .inl h0⟩
 ·have hw : Win k e (w.setCell p v) g 0 n cur l := ⟨(Below.heap_setCell w p v g (by omega)).trans h3.blk, h3.fits, h3.len, h3.at_⟩
  subst h1
  exact ⟨⟨h.row.len, h.row.fits, h.row.most, h.row.nil_, h.row.dg, hw.rd⟩, .inr ⟨g, cur, rfl, h2, hw⟩⟩
theorem zah {w : World} {base : Nat} {e : TypeId} {v : Value} {n : Nat} {k : IntKind} {l : List Nat} (h : w.ownsRow base e 1 v n (cs k l)) (hn : 0 < n) :
  ∃ g cap cur, v = .slice (some ⟨g, 0, none⟩) n cap /\ base <= g /\ n <= cap /\ cap <= maxLen /\ cur.size = cap /\ Win k e w g 0 n cur l := by
 have hl : l.length = n := by have := h.1; rw [qx] at this; omega
 rcases h.2 with ⟨_, h0⟩ | ⟨g, cap, cur, rfl, hb, hg, hle, hm, hsz, htk⟩
 ·omega
 ·refine ⟨g, cap, cur, rfl, hb, hle, hm, by omega, hg, by omega, hl, fun i hi => ?_⟩
  have h1 : (cs k l)[i]? = some (.int k (l.getD i 0 : Nat)) := zdu (by omega)
  rw [<- htk, List.getElem?_take, if_pos (by omega)] at h1
  rw [Nat.zero_add, <- Array.getElem?_toList]; exact h1
theorem zlj {w : World} {base : Nat} {e : TypeId} {n g cap : Nat} {k : IntKind} {l : List Nat} {cur : Array Value} (hb : base <= g) (h1 : n <= cap) (h2 : cap <= maxLen) (h3 : cur.size = cap) (hw : Win k e w g 0 n cur l) :
  w.ownsRow base e 1 (.slice (some ⟨g, 0, none⟩) n cap) n (cs k l) := by
 refine ⟨by rw [qx, hw.len]; omega, .inr ⟨g, cap, cur, rfl, hb, hw.blk, h1, h2, by omega, ?_⟩⟩
 apply List.ext_getElem?
 intro i
 rw [List.getElem?_take]
 by_cases hi : i < n
 ·rw [if_pos (by omega), Array.getElem?_toList, zdu (by rw [hw.len]; exact hi)]
  have := hw.at_ i hi
  rwa [Nat.zero_add] at this
 ·rw [if_neg (by omega), List.getElem?_eq_none (by rw [qx, hw.len]; omega)]
theorem zbt {w w' : World} {base : Nat} {e : TypeId} {n g cap : Nat} {k : IntKind} {l : List Nat} {cur : Array Value} (hb : base <= g) (h1 : n <= cap) (h2 : cap <= maxLen) (h3 : cur.size = cap) (hO : Onto k e g 0 n w w' cur l) :
  w'.ownsRow base e 1 (.slice (some ⟨g, 0, none⟩) n cap) n (cs k l) := by
 obtain ⟨c, hw, hc, _⟩ := hO.row
 exact zlj hb h1 h2 (by omega) hw
theorem zvt {w w' : World} {base : Nat} {e e' : TypeId} {v : Value} {n m g o : Nat} {k : IntKind} {xs : List Value} {l : List Nat} {cur : Array Value} (h : w.ownsRow base e 1 v n xs) (hg : g < base) (hO : Onto k e' g o m w w' cur l) : w'.ownsRow base e 1 v n xs := by
 refine ⟨h.1, ?_⟩
 rcases h.2 with h0 | ⟨g', cap, cur', h1, h2, h3, h4⟩
 ·exact .inl h0
 ·exact .inr ⟨g', cap, cur', h1, h2, (hO.block g' (by omega)).trans h3, h4⟩
theorem own0 (w : World) (k : IntKind) (e : TypeId) : (w.alloc (.cells #[] e)).ownsRow w.heap.size e 1 (.slice (some ⟨w.heap.size, 0, none⟩) 0 0) 0 (cs k []) :=
 World.ownsRow_made (base := w.heap.size) (e := e) (size := 1) w #[] 0 (Nat.le_refl _) (Nat.zero_le _) rfl
theorem zyp {w w' : World} {base : Nat} {e : TypeId} {v : Value} {n : Nat} {xs : List Value} (hown : w.ownsRow base e 1 v n xs) (hbase : base <= w.heap.size) (hg : w.grownBy w' v.ownBlock) : Below base w w' :=
 (Below.refl base w).grown hg hbase (fun k hk => (hown.lt k hk).1)
theorem Bb {w w1 w2 : World} {B : Nat} (hb : Below w.heap.size w w1) (h2 : Below B w1 w2) (hB : w.heap.size <= B) : Below w.heap.size w w2 := hb.trans (h2.mono hB)
theorem zdl {w : World} {base : Nat} {e : TypeId} {v : Value} {n n' j : Nat} {k : IntKind} {l r : List Nat} (h : w.ownsRow base e 1 v n (cs k (l ++ r.take j ++ [r.getD j 0]))) (hn : n = n') (hj : j < r.length) : w.ownsRow base e 1 v n' (cs k (l ++ r.take (j + 1))) := by
 rw [fh r j hj, <- List.append_assoc, <- hn]; exact h
theorem yy (w : World) (v : Value) (e : TypeId) : (w.alloc (.cells #[v] e)).cell? ⟨w.heap.size, 0, none⟩ = some v := by simp
variable {P : Program} {w : World} {ops : Array Oper} {rest : List Oper} {o : Oper} {a : Act} {Q : Exit -> Act -> World -> Prop}
theorem app1 (hgd : o.guard = none) (s x : Operand) (t : TypeId) (ho : o.op = .call { callee := .builtin .append, args := #[s, x], argTypes := #[t, t] })
  (base : Nat) (e : TypeId) (k : IntKind) (bytes : Nat) (hby : bytes <= 8) (ht : P.underlying t = some (.slice e)) (hi : (P.info? e).map (fun i => (i.zero, i.size, i.bytes)) = some (some (.int k 0), 1, bytes))
  (v : Value) (n : Nat) (l : List Nat) (hs : a.eval s = v) (hown : w.ownsRow base e 1 v n (cs k l))
  (ad : Addr) (c : Nat) (d : Nat) (hx : a.eval x = .slice (some ad) 1 c) (hd : w.cell? ad = some (.int k d)) (hsm : n <= 1000000) (hbase : base <= w.heap.size)
  (h : ∀ g cap w', w'.ownsRow base e 1 (.slice (some ⟨g, 0, none⟩) (n + 1) cap) (n + 1) (cs k (l ++ [d])) -> Below base w w' -> wpList P ops Q rest (a.put o.dst (.slice (some ⟨g, 0, none⟩) (n + 1) cap)) w') :
  wpList P ops Q (o :: rest) a w := by
 obtain ⟨i0, hi0, hz0, hz1, hz2⟩ := info_parts hi
 refine wpList_append_lies w hgd s x t ho base e i0 (.int k 0) 1 bytes ht hi0 hz0 hz1 hz2 rfl (by decide) v n (cs k l) hs hown ad 1 c [.int k d] hx rfl ?_ ?_ (by decide) (by unfold maxLen; omega) ?_ hbase w.heap.size rfl ?_
 ·intro j u hj
  match j, hj with
  | 0, hj => simp at hj; subst hj; simpa [Addr.add] using hd
 ·intro u hu; simp at hu; subst hu; rfl
 ·have : (n + 1) * bytes <= 1000001 * 8 := Nat.mul_le_mul (by omega) hby
  omega
 ·intro g cap w' h1 h2 h3 h4
  refine h g cap w' ?_ (zyp hown hbase h2)
  rw [ziy]; exact h1
theorem zqy (hgd : o.guard = none) (s x : Operand) (t : TypeId) (ho : o.op = .call { callee := .builtin .append, args := #[s, x], argTypes := #[t, t] })
  (base : Nat) (e : TypeId) (k : IntKind) (bytes : Nat) (hby : bytes <= 8) (ht : P.underlying t = some (.slice e)) (hi : (P.info? e).map (fun i => (i.zero, i.size, i.bytes)) = some (some (.int k 0), 1, bytes))
  (v : Value) (n : Nat) (l : List Nat) (hs : a.eval s = v) (hown : w.ownsRow base e 1 v n (cs k l))
  (B : Nat) (ao : Option Addr) (m c : Nat) (r : List Nat) (hx : a.eval x = .slice ao m c) (hr : Row k B w ao m c r) (hsm : n + m <= 1000000) (hbase : base <= w.heap.size)
  (h : ∀ v' w', w'.ownsRow base e 1 v' (n + m) (cs k (l ++ r)) -> Below base w w' -> wpList P ops Q rest (a.put o.dst v') w') :
  wpList P ops Q (o :: rest) a w := by
 obtain ⟨i0, hi0, hz0, hz1, hz2⟩ := info_parts hi
 cases ao with
 | none =>
  have hc := hr.nil_ rfl
  subst hc
  have hm : m = 0 := by have := hr.fits; omega
  subst hm
  have hl : r = [] := List.length_eq_zero_iff.1 hr.len
  subst hl
  refine wpList_append_own_none hgd s x t ho base e i0 1 ht hi0 v n (cs k l) hs hown hx ?_
  refine h v w (by simpa using hown) (Below.refl _ _)
 | some ad =>
  refine wpList_append_own w hgd s x t ho base e i0 (.int k 0) 1 bytes ht hi0 hz0 hz1 hz2 rfl (by decide) v n (cs k l) hs hown ad m c (cs k r) hx (by rw [qx, hr.len]; omega) ?_ (zbx1 k r) (by unfold maxLen; omega) ?_ hbase ?_
  ·intro j u hj
   obtain ⟨h1, rfl⟩ := zbw1 hj
   obtain ⟨b, o', hao, _, hc⟩ := hr.rd.some (by omega)
   cases hao
   have := hc j h1
   unfold Addr.add
   by_cases hj0 : j = 0
   ·subst hj0; simpa using this
   ·rw [if_neg hj0]; exact this
  ·have : (n + m) * bytes <= 1000000 * 8 := Nat.mul_le_mul hsm hby
   omega
  ·intro v' w' h1 h2 _
   refine h v' w' ?_ (zyp hown hbase h2)
   rw [ziy]; exact h1
end Go.Proofs.YtadfihnffboelaaGreatDoor
