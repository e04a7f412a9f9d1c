import Derived.Test.YtbkfinjajkjhaaaGreatDoorW2
import Derived.Test.YtbkfinjajkjhaaaGreatDoorApp
import Derived.Lib.SliceRun
import Derived.Deep.RegionHeld3
set_option linter.unusedVariables false
set_option linter.unusedSimpArgs false
namespace Go.Proofs.YtbkfinjajkjhaaaGreatDoor
open Go.RowKit
theorem info_u32 : (Tryz.prog.info? 97).map (fun i => (i.zero, i.size, i.bytes)) = some (some (.int .u32 0), 1, 4) := by kernel_rfl
theorem info_u8 : (Tryz.prog.info? 5).map (fun i => (i.zero, i.size, i.bytes)) = some (some (.int .u8 0), 1, 1) := by kernel_rfl
set_option maxHeartbeats 400000 in
theorem clone_any (ao : Option Addr) (n cap : Nat) (l : List Nat) (w : World) (R : Row .u32 B32 w ao n cap l) (hs : n <= 1000) :
  Calls Tryz.prog 109 #[.slice ao n cap] w fun e w' => ∃ ao' cap', e = .returned (.slice ao' n cap') /\ Own .u32 97 B32 w.heap.size w' ao' n cap' l /\ Below w.heap.size w w' := by
 have heq := fun wx => Lib.run_eql_slice_nil (P := Tryz.prog) wx 53 97 ao n cap 0 0 Tryz.underlying53
 have HD : Hid (Dg B32 l) := R.dg
 cases ao with
 | none =>
  have hc := R.nil_ rfl
  subst hc
  have hm : n = 0 := by have := R.fits; omega
  subst hm
  have hl : l = [] := List.length_eq_zero_iff.1 R.len
  subst hl
  simp only [Option.isNone_none] at heq
  clear R HD
  go_enter Tryz.func109, Tryz.ntmps109
  go_wp2
  go_ret
  exact ⟨none, 0, rfl, Own.nil _ _ _ _ _ _, Below.refl _ _⟩
 | some a =>
  simp only [Option.isNone_some] at heq
  have HR : Hid (Row .u32 B32 w (some a) n cap l) := R
  clear R
  go_enter Tryz.func109, Tryz.ntmps109
  go_wp2_with (at_builtin; refine appRow rfl _ _ 53 rfl w.heap.size 97 .u32 4 (by decide) Tryz.underlying53 info_u32 _ 0 [] rfl (own0 w .u32 97) B32 (some a) n cap l rfl (HR.out.below (Ba _ _)) (by omega) (by simp) ?_; intro v' w1 hown hbel)
  simp only [Nat.zero_add, List.nil_append] at hown
  have hb := Bb (Ba w (.cells #[] 97)) hbel (Nat.le_refl _)
  have HO := hid hown
  have HB := hid hb
  clear hown hbel hb
  go_wp2
  go_ret
  obtain ⟨ao', cap', rfl, hO⟩ := own_of HO.out HD.out
  exact ⟨ao', cap', rfl, hO, HB.out⟩
def Big (v : Nat) : Prop := B32 ^ 40 <= v
def Ans (w : World) (x : Value) (en : Int) (neg : Bool) (v : Nat) : Prop :=
 (¬ Big v /\ en = 0 /\ ∃ l, IntIs w x (neg && decide (l ≠ [])) l /\ Tr l /\ val B32 l = v) \/ (Big v /\ en = 10 /\ x = .agg #[.bool false, .slice none 0 0])
theorem small_len {l : List Nat} (hl : Dg B32 l) (ht : Tr l) : l.length <= 40 ↔ ¬ Big (val B32 l) := by
 rw [val_lt_iff (by decide) hl ht]; unfold Big; omega
theorem blk_set {w : World} {g i : Nat} {c : Array Value} {t : TypeId} (h : w.heap[g]? = some (.cells c t (0, 0))) (v : Value) : (w.setCell ⟨g, i, none⟩ v).heap[g]? = some (.cells (c.setIfInBounds i v) t (0, 0)) := by
 simp [World.setCell, Array.getElem?_modify, h]
theorem blk_cell {w : World} {g : Nat} {c : Array Value} {t : TypeId} (h : w.heap[g]? = some (.cells c t (0, 0))) (i : Nat) : w.cell? ⟨g, i, none⟩ = c[i]? := by simp [World.cell?, h]
theorem blk_free {w : World} {g : Nat} {c : Array Value} {t : TypeId} (h : w.heap[g]? = some (.cells c t (0, 0))) (i : Nat) : w.frozen? ⟨g, i, none⟩ = false := by simp [World.frozen?, h]
theorem blk_new (w : World) (c : Array Value) (t : TypeId) : (w.alloc (.cells c t)).heap[w.heap.size]? = some (.cells c t (0, 0)) := heap_alloc_new w _
theorem ne_box {k : IntKind} {w : World} {l : List Nat} {p b o : Nat} {x : Bool} {a : Option Addr} {m c : Nat} {t : TypeId} (hl : 0 < l.length)
  (hc : ∀ i, i < l.length -> w.cell? ⟨b, o + i, none⟩ = some (.int k (l.getD i 0 : Nat))) (hp : w.heap[p]? = some (.cells #[.bool x, .slice a m c] t (0, 0))) : b ≠ p := by
 intro e
 subst e
 have h1 := hc 0 hl
 rw [blk_cell hp] at h1
 simp only [Nat.add_zero] at h1
 match o, h1 with
 | 0, h1 => simp at h1
 | 1, h1 => simp at h1
 | o + 2, h1 => simp at h1
theorem Row.setBox {k : IntKind} {B : Nat} {w : World} {ao : Option Addr} {n cap : Nat} {l : List Nat} {p : Nat} {x : Bool} {a : Option Addr} {m c : Nat} {t : TypeId} (R : Row k B w ao n cap l)
  (hp : w.heap[p]? = some (.cells #[.bool x, .slice a m c] t (0, 0))) (i : Nat) (v : Value) : Row k B (w.setCell ⟨p, i, none⟩ v) ao n cap l := by
 refine ⟨R.len, R.fits, R.most, R.nil_, R.dg, ?_⟩
 rcases R.rd with h | ⟨b, o, h1, h2, h3⟩
 ·exact .inl h
 ·by_cases hl : 0 < l.length
  ·have hne := ne_box hl h3 hp
   exact .inr ⟨b, o, h1, by simpa [World.setCell] using h2, fun j hj => (World.cell?_of_block (w := w) (a := ⟨b, o + j, none⟩) (Below.heap_setCell w ⟨p, i, none⟩ v b hne)).trans (h3 j hj)⟩
  ·exact .inl (List.length_eq_zero_iff.1 (by omega))
theorem Row.setBox2 {k : IntKind} {B : Nat} {w : World} {ao : Option Addr} {n cap : Nat} {l : List Nat} {p : Nat} {x : Bool} {a : Option Addr} {m c : Nat} {t : TypeId} (R : Row k B w ao n cap l)
  (hp : w.heap[p]? = some (.cells #[.bool x, .slice a m c] t (0, 0))) (y : Bool) (v : Value) : Row k B ((w.setCell ⟨p, 0, none⟩ (.bool y)).setCell ⟨p, 1, none⟩ v) ao n cap l :=
 (R.setBox hp 0 (.bool y)).setBox (blk_set hp (.bool y)) 1 v
theorem box_set2 {w : World} {p : Nat} {x : Bool} {a : Option Addr} {m c : Nat} {t : TypeId} (hp : w.heap[p]? = some (.cells #[.bool x, .slice a m c] t (0, 0))) (y : Bool) (v : Value) :
  ((w.setCell ⟨p, 0, none⟩ (.bool y)).setCell ⟨p, 1, none⟩ v).heap[p]? = some (.cells #[.bool y, v] t (0, 0)) := blk_set (blk_set hp (.bool y)) v
def Box (t : TypeId) (w : World) (p : Nat) (x : Bool) (a : Option Addr) (m c : Nat) : Prop := w.heap[p]? = some (.cells #[.bool x, .slice a m c] t (0, 0))
theorem Box.lt {t : TypeId} {w : World} {p : Nat} {x : Bool} {a : Option Addr} {m c : Nat} (h : Box t w p x a m c) : p < w.heap.size := (Array.getElem?_eq_some_iff.1 h).1
theorem Box.on {t : TypeId} {w w' : World} {p : Nat} {x : Bool} {a : Option Addr} {m c : Nat} (h : Box t w p x a m c) (hb : Below w.heap.size w w') : Box t w' p x a m c := (hb.block p h.lt).trans h
theorem Box.below {t : TypeId} {w w' : World} {p B : Nat} {x : Bool} {a : Option Addr} {m c : Nat} (h : Box t w p x a m c) (hb : Below B w w') (hp : p < B) : Box t w' p x a m c := (hb.block p hp).trans h
theorem Box.c {t : TypeId} {w : World} {p : Nat} {x : Bool} {a : Option Addr} {m c : Nat} (h : Box t w p x a m c) : w.cell? ⟨p, 0, none⟩ = some (.bool x) /\ w.cell? ⟨p, 1, none⟩ = some (.slice a m c) := ⟨blk_cell h 0, blk_cell h 1⟩
theorem Box.f {t : TypeId} {w : World} {p : Nat} {x : Bool} {a : Option Addr} {m c : Nat} (h : Box t w p x a m c) : w.frozen? ⟨p, 0, none⟩ = false /\ w.frozen? ⟨p, 1, none⟩ = false := ⟨blk_free h 0, blk_free h 1⟩
theorem Box.new (t : TypeId) (w : World) (x : Bool) (a : Option Addr) (m c : Nat) : Box t (w.alloc (.cells #[.bool x, .slice a m c] t)) w.heap.size x a m c := blk_new _ _ _
theorem Box.alloc {t : TypeId} {w : World} {p : Nat} {x : Bool} {a : Option Addr} {m c : Nat} (h : Box t w p x a m c) (o : Obj) : Box t (w.alloc o) p x a m c := h.on (Ba w o)
theorem Box.set2 {t : TypeId} {w : World} {p : Nat} {x : Bool} {a : Option Addr} {m c : Nat} (h : Box t w p x a m c) (y : Bool) (a' : Option Addr) (m' c' : Nat) : Box t ((w.setCell ⟨p, 0, none⟩ (.bool y)).setCell ⟨p, 1, none⟩ (.slice a' m' c')) p y a' m' c' := box_set2 h y _
theorem IntIs.open_ {w : World} {x : Value} {s : Bool} {l : List Nat} (h : IntIs w x s l) : ∃ ao n cap sg, x = .agg #[.bool sg, .slice ao n cap] /\ Hid (sg = s) /\ Row .u32 B32 w ao n cap l := by
 obtain ⟨ao, n, cap, h1, h2⟩ := h
 exact ⟨ao, n, cap, s, h1, rfl, h2⟩
theorem or_join (hi lo : Nat) (h1 : hi < 4294967296) (h2 : lo < 4294967296) : bits .or .u64 ((hi : Int) * 4294967296) (lo : Int) = ((hi * 4294967296 + lo : Nat) : Int) := by
 rw [show ((hi : Int) * 4294967296) = ((hi * 4294967296 : Nat) : Int) by omega, u64_or_nat _ _ (by omega) (by omega), nat_join 32 _ _ (by omega) (by omega)]
theorem div_fits (z v : Nat) (h : z / v < 4294967296) : IntKind.u64.wrap ((z : Int).tdiv v) % 4294967296 = ((z / v : Nat) : Int) := by
 rw [<- Int.ofNat_tdiv, IntKind.wrap_u64]; generalize z / v = q at *; omega
theorem mod_fits (z v : Nat) (h : z % v < 4294967296) : (z : Int).tmod v % 4294967296 = ((z % v : Nat) : Int) := by
 rw [<- Int.ofNat_tmod]; generalize z % v = q at *; omega
theorem ret_two {a b c d : Value} (h1 : a = c) (h2 : b = d) : Ending.returned (.tuple #[a, b]) = .returned (.tuple #[c, d]) := by rw [h1, h2]
set_option maxHeartbeats 400000 in
theorem div32_any (hi lo v : Nat) (hh : hi < v) (hl : lo < B32) (hv : v < B32) (w : World) :
  Calls Tryz.prog 134 #[.int .u32 hi, .int .u32 lo, .int .u32 v] w fun e w' => e = .returned (.tuple #[.int .u32 ((hi * B32 + lo) / v : Nat), .int .u32 ((hi * B32 + lo) % v : Nat)]) /\ ∃ k, w' = w.drewN k := by
 unfold B32 at *
 have e1 : ((v : Int) != 0) = true := by rw [bne_iff_ne]; omega
 have e2 : decide ((v : Int) <= hi) = false := by simp; omega
 have hor := or_join hi lo (by omega) hl
 obtain ⟨z, hz⟩ : ∃ z, z = hi * 4294967296 + lo := ⟨_, rfl⟩
 rw [<- hz] at hor ⊢
 have hq : z / v < 4294967296 := by
  rw [Nat.div_lt_iff_lt_mul (by omega)]
  have : (hi + 1) * 4294967296 <= v * 4294967296 := Nat.mul_le_mul_right _ hh
  omega
 have hr : z % v < 4294967296 := by have := Nat.mod_lt z (by omega : 0 < v); omega
 have hz2 : z < 18446744073709551616 := by omega
 have HQ : Hid (z / v < 4294967296) := hq
 have HR : Hid (z % v < 4294967296) := hr
 clear hz hq hr hz2
 go_enter Tryz.func134, Tryz.ntmps134
 go_wp2
 go_quiet (fail)
 go_wp2
 go_ret2
 refine ⟨ret_two ?_ ?_, nq, rfl⟩
 ·exact congrArg (Value.int .u32) (div_fits z v HQ.out)
 ·exact congrArg (Value.int .u32) (mod_fits z v HR.out)
theorem divStep {B r v q : Nat} (hv : 0 < v) (m : Nat) (L : List Nat) (hm : m < L.length) (h1 : val B (L.drop (m + 1)) = q * v + r) (hr : r < v) :
  val B (L.drop m) = ((r * B + L.getD m 0) / v + B * q) * v + (r * B + L.getD m 0) % v := by
 rw [val_drop_succ B L m hm, h1]
 have := Nat.div_add_mod (r * B + L.getD m 0) v
 rw [Nat.add_mul, Nat.mul_add, Nat.mul_assoc B q v, Nat.mul_comm B r]
 rw [Nat.mul_comm v] at this
 omega
theorem set_take_append {l q : List Nat} {m x : Nat} (hm : m < l.length) : (l.take (m + 1) ++ q).set m x = l.take m ++ (x :: q) := by
 rw [take_snoc l m hm, List.append_assoc, List.set_append, if_neg (by rw [List.length_take]; omega), List.length_take, Nat.min_eq_left (by omega)]
 simp
set_option maxHeartbeats 1000000 in
theorem divSmall_any (g o n cap : Nat) (cur : Array Value) (l : List Nat) (v : Nat) (w : World) (W : Win .u32 97 w g o n cur l) (hd : Dg B32 l) (hn : n <= maxLen) (hv0 : 0 < v) (hv : v < B32) :
  Calls Tryz.prog 111 #[.slice (some ⟨g, o, none⟩) n cap, .int .u32 v] w fun e w' => e = .returned (.int .u32 (val B32 l % v : Nat)) /\ ∃ l', Onto .u32 97 g o n w w' cur l' /\ Dg B32 l' /\ val B32 l' = val B32 l / v := by
 have HW : Hid (Win .u32 97 w g o n cur l) := W
 have HD : Hid (Dg B32 l) := hd
 have HL : Hid (l.length = n) := W.len
 unfold maxLen at hn
 clear W hd
 go_enter Tryz.func111, Tryz.ntmps111
 go_wp2
 go_loopw [5, 6] (fun t i wr => ∃ m r : Nat, ∃ q : List Nat, m <= n /\ i = .int .i64 ((m : Int) - 1) /\ t = .int .u32 r /\ r < v /\ Hid (q.length = n - m /\ Dg B32 q /\ val B32 (l.drop m) = val B32 q * v + r /\ Onto .u32 97 g o n w wr cur (l.take m ++ q))) (fun _ i _ => (intOf i + 1).toNat)
 case atStart => exact ⟨n, 0, [], Nat.le_refl _, rfl, rfl, hv0, by simp, Dg.nil _, by rw [List.drop_eq_nil_of_le (by rw [HL.out]; omega)]; simp [val], by
  rw [List.take_of_length_le (by rw [HL.out]; omega), List.append_nil]; exact HW.out.onto⟩
 case round =>
  obtain ⟨m, r, q, hm, rfl, rfl, hr, hH⟩ := hrel
  by_cases hz : m = 0
  ·subst hz
   go_wp2
   go_ret
   obtain ⟨h1, h2, h3, h4⟩ := hH.out
   rw [List.drop_zero] at h3
   rw [h3]
   refine ⟨congrArg (fun z : Nat => Ending.returned (.int .u32 (z : Int))) ?_, q, by simpa using h4, h2, ?_⟩
   ·rw [Nat.mul_comm, Nat.mul_add_mod, Nat.mod_eq_of_lt hr]
   ·rw [Nat.mul_comm, Nat.mul_add_div hv0, Nat.div_eq_of_lt hr]; rfl
  ·obtain ⟨p, rfl⟩ : ∃ p, m = p + 1 := ⟨m - 1, by omega⟩
   obtain ⟨d, hd⟩ : ∃ d, d = l.getD p 0 := ⟨_, rfl⟩
   have hll : p < l.length := by rw [HL.out]; omega
   have hdb : d < B32 := by rw [hd]; exact HD.out.getD _ hll
   have hc : wr.cell? ⟨g, o + p, none⟩ = some (.int .u32 d) := by
    have := hH.out.2.2.2.cell (i := p) (by omega)
    rw [getD_append_left (by rw [List.length_take]; omega), getD_take (by omega), <- hd] at this
    exact this
   have hf : wr.frozen? ⟨g, o + p, none⟩ = false := hH.out.2.2.2.frozen _
   have H1 : Hid (d = l.getD p 0) := hd
   have HP : Hid (p < l.length) := hll
   clear hd hll
   obtain ⟨Q, hQ⟩ : ∃ Q, Q = (r * B32 + d) / v := ⟨_, rfl⟩
   obtain ⟨R, hR⟩ : ∃ R, R = (r * B32 + d) % v := ⟨_, rfl⟩
   have HC : Hid (∀ w, Calls Tryz.prog 134 #[.int .u32 r, .int .u32 d, .int .u32 v] w fun e w' => e = .returned (.tuple #[.int .u32 Q, .int .u32 R]) /\ ∃ k, w' = w.drewN k) := fun w => by rw [hQ, hR]; exact div32_any r d v hr hdb hv w
   have HQ : Hid (Q = (r * B32 + d) / v) := hQ
   have HR : Hid (R = (r * B32 + d) % v) := hR
   have hRv : R < v := by rw [hR]; exact Nat.mod_lt _ hv0
   have HB : Hid (Q < B32) := by
    unfold Hid
    rw [hQ, Nat.div_lt_iff_lt_mul hv0]
    have : (r + 1) * B32 <= v * B32 := Nat.mul_le_mul_right _ hr
    rw [Nat.add_mul] at this
    rw [Nat.mul_comm B32 v]
    omega
   clear hQ hR
   go_wp2_with (go_at_call 134; refine (HC.out _).mono ?_; rintro e w' ⟨rfl, q1, rfl⟩)
   obtain ⟨h1, h2, h3, h4⟩ := hH.out
   refine ⟨⟨p, R, Q :: q, by omega, rfl, rfl, hRv, ?_, ?_, ?_, ?_⟩, by simp [intOf] <;> omega⟩
   ·simp [h1]; omega
   ·exact fun x hx => by rcases List.mem_cons.1 hx with rfl | hx; exact HB.out; exact h2 x hx
   ·rw [divStep hv0 p l HP.out h3 hr, <- H1.out, <- HQ.out, <- HR.out, val_cons]
   ·rw [<- set_take_append HP.out]; exact (h4.drewN q1).store (by omega) Q
end Go.Proofs.YtbkfinjajkjhaaaGreatDoor
