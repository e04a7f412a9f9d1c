import Derived.Test.YtdekkieajffblaaGreatDoorOnto
set_option linter.unusedVariables false
set_option linter.unusedSimpArgs false
namespace Go.Proofs.YtdekkieajffblaaGreatDoor
open Go.RowKit
def lw (b : List Nat) (j : Nat) : Nat := val 256 ((b.drop (4 * j)).take 4)
def lws (b : List Nat) (j : Nat) : List Nat := (List.range j).map (lw b)
theorem lws_length (b : List Nat) (j : Nat) : (lws b j).length = j := by simp [lws]
theorem lws_succ (b : List Nat) (j : Nat) : lws b (j + 1) = lws b j ++ [lw b j] := by simp [lws, List.range_succ]
theorem pow_256_4 (j : Nat) : 256 ^ (4 * j) = B32 ^ j := by
 rw [Nat.pow_mul]; rfl
theorem B32_pow : (256 : Nat) ^ 4 = B32 := rfl
theorem lw_lt {b : List Nat} (h : Dg 256 b) (j : Nat) : lw b j < B32 := by
 have h1 := val_lt ((h.drop (4 * j)).take 4)
 have h2 : (256 : Nat) ^ ((b.drop (4 * j)).take 4).length <= 256 ^ 4 := Nat.pow_le_pow_right (by decide) (by rw [List.length_take]; omega)
 rw [B32_pow] at h2
 unfold lw; omega
theorem lws_dg {b : List Nat} (h : Dg 256 b) (j : Nat) : Dg B32 (lws b j) := by
 intro x hx
 obtain ⟨i, _, rfl⟩ := List.mem_map.1 hx
 exact lw_lt h i
theorem lws_val (b : List Nat) : ∀ j, 4 * j <= b.length + 3 -> val B32 (lws b j) = val 256 (b.take (4 * j))
 | 0, _ => by simp [lws, val]
 | j + 1, h => by
  have ih := lws_val b j (by omega)
  have e1 : b.take (4 * (j + 1)) = b.take (4 * j) ++ (b.drop (4 * j)).take 4 := by
   rw [show 4 * (j + 1) = 4 * j + 4 by omega, List.take_add]
  rw [lws_succ, val_snoc, ih, e1, val_append, lws_length, List.length_take, Nat.min_eq_left (by omega), pow_256_4]
  rfl
theorem lws_tr {b : List Nat} (ht : Tr b) (j : Nat) (h1 : b.length <= 4 * j) (h2 : 4 * j <= b.length + 3) : Tr (lws b j) := by
 by_cases hj : j = 0
 ·subst hj; exact .inl rfl
 ·refine .inr ?_
  have hl : 0 < b.length := by omega
  have hd : b.getD (b.length - 1) 0 ≠ 0 := ht.resolve_left (by intro e; simp [e] at hl)
  have e1 : (b.drop (4 * (j - 1))).take 4 = b.drop (4 * (j - 1)) := List.take_of_length_le (by rw [List.length_drop]; omega)
  have e2 : (lws b j).getD ((lws b j).length - 1) 0 = lw b (j - 1) := by
   rw [lws_length]
   obtain ⟨i, rfl⟩ : ∃ i, j = i + 1 := ⟨j - 1, by omega⟩
   rw [lws_succ, getD_append_at (by rw [lws_length]; omega)]; rfl
  rw [e2]
  unfold lw
  rw [e1]
  have ht2 : Tr (b.drop (4 * (j - 1))) := by
   refine .inr ?_
   rw [List.getD_eq_getElem?_getD, List.getElem?_drop, <- List.getD_eq_getElem?_getD, List.length_drop, show 4 * (j - 1) + (b.length - 4 * (j - 1) - 1) = b.length - 1 by omega]
   exact hd
  refine ht2.ne_zero (by decide) ?_
  intro e
  have := congrArg List.length e
  rw [List.length_drop] at this
  simp at this; omega
theorem acc_step (b : List Nat) (j k : Nat) (h : 4 * j + k < b.length) : val 256 ((b.drop (4 * j)).take (k + 1)) = val 256 ((b.drop (4 * j)).take k) + 256 ^ k * b.getD (4 * j + k) 0 := by
 rw [val_take_succ 256 _ k (by rw [List.length_drop]; omega), List.getD_eq_getElem?_getD, List.getElem?_drop, <- List.getD_eq_getElem?_getD]
theorem acc_lt {b : List Nat} (h : Dg 256 b) (j k : Nat) : val 256 ((b.drop (4 * j)).take k) < 256 ^ k := by
 have h1 := val_lt ((h.drop (4 * j)).take k)
 have h2 : (256 : Nat) ^ ((b.drop (4 * j)).take k).length <= 256 ^ k := Nat.pow_le_pow_right (by decide) (by rw [List.length_take]; omega)
 omega
def Big (v : Nat) : Prop := B32 ^ 40 <= v
def Ans (w : World) (x : Value) (en : Int) (neg : Bool) (v : Nat) : Prop :=
 (¬ Big v /\ en = 0 /\ ∃ l, IntIs w x (neg && decide (l ≠ [])) l /\ Tr l /\ val B32 l = v) \/ (Big v /\ en = 10 /\ x = .agg #[.bool false, .slice none 0 0])
theorem small_len {l : List Nat} (hl : Dg B32 l) (ht : Tr l) : l.length <= 40 ↔ ¬ Big (val B32 l) := by
 rw [val_lt_iff (by decide) hl ht]; unfold Big; omega
theorem or_u32_8 (a d : Nat) (h1 : a < 256) (h2 : d < 256) : bits .or .u32 (a : Int) ((d : Int) * 256) = ((a + 256 * d : Nat) : Int) := by
 rw [show ((d : Int) * 256) = ((d * 256 : Nat) : Int) by omega, u32_or_nat _ _ (by omega) (by omega), Nat.or_comm, nat_join 8 _ _ (by omega) (by omega)]; omega
theorem or_u32_16 (a d : Nat) (h1 : a < 65536) (h2 : d < 256) : bits .or .u32 (a : Int) ((d : Int) * 65536) = ((a + 65536 * d : Nat) : Int) := by
 rw [show ((d : Int) * 65536) = ((d * 65536 : Nat) : Int) by omega, u32_or_nat _ _ (by omega) (by omega), Nat.or_comm, nat_join 16 _ _ (by omega) (by omega)]; omega
theorem or_u32_24 (a d : Nat) (h1 : a < 16777216) (h2 : d < 256) : bits .or .u32 (a : Int) ((d : Int) * 16777216) = ((a + 16777216 * d : Nat) : Int) := by
 rw [show ((d : Int) * 16777216) = ((d * 16777216 : Nat) : Int) by omega, u32_or_nat _ _ (by omega) (by omega), Nat.or_comm, nat_join 24 _ _ (by omega) (by omega)]; omega
theorem or_u32_0 (d : Nat) (h2 : d < 256) : bits .or .u32 0 (d : Int) = ((d : Nat) : Int) := by
 have := u32_or_nat 0 d (by omega) (by omega)
 rw [Nat.zero_or] at this; exact this
theorem blk_set {w : World} {g i : Nat} {c : Array Value} {t : TypeId} (h : w.heap[g]? = some (.cells c t (0, 0))) (v : Value) : (w.setCell ⟨g, i, none⟩ v).heap[g]? = some (.cells (c.setIfInBounds i v) t (0, 0)) := by
 simp [World.setCell, Array.getElem?_modify, h]
theorem blk_cell {w : World} {g : Nat} {c : Array Value} {t : TypeId} (h : w.heap[g]? = some (.cells c t (0, 0))) (i : Nat) : w.cell? ⟨g, i, none⟩ = c[i]? := by simp [World.cell?, h]
theorem blk_free {w : World} {g : Nat} {c : Array Value} {t : TypeId} (h : w.heap[g]? = some (.cells c t (0, 0))) (i : Nat) : w.frozen? ⟨g, i, none⟩ = false := by simp [World.frozen?, h]
theorem blk_new (w : World) (c : Array Value) (t : TypeId) : (w.alloc (.cells c t)).heap[w.heap.size]? = some (.cells c t (0, 0)) := heap_alloc_new w _
theorem ne_box {k : IntKind} {w : World} {l : List Nat} {p b o : Nat} {x : Bool} {a : Option Addr} {m c : Nat} {t : TypeId} (hl : 0 < l.length)
  (hc : ∀ i, i < l.length -> w.cell? ⟨b, o + i, none⟩ = some (.int k (l.getD i 0 : Nat))) (hp : w.heap[p]? = some (.cells #[.bool x, .slice a m c] t (0, 0))) : b ≠ p := by
 intro e
 subst e
 have h1 := hc 0 hl
 rw [blk_cell hp] at h1
 simp only [Nat.add_zero] at h1
 match o, h1 with
 | 0, h1 => simp at h1
 | 1, h1 => simp at h1
 | o + 2, h1 => simp at h1
theorem Row.setBox {k : IntKind} {B : Nat} {w : World} {ao : Option Addr} {n cap : Nat} {l : List Nat} {p : Nat} {x : Bool} {a : Option Addr} {m c : Nat} {t : TypeId} (R : Row k B w ao n cap l)
  (hp : w.heap[p]? = some (.cells #[.bool x, .slice a m c] t (0, 0))) (i : Nat) (v : Value) : Row k B (w.setCell ⟨p, i, none⟩ v) ao n cap l := by
 refine ⟨R.len, R.fits, R.most, R.nil_, R.dg, ?_⟩
 rcases R.rd with h | ⟨b, o, h1, h2, h3⟩
 ·exact .inl h
 ·by_cases hl : 0 < l.length
  ·have hne := ne_box hl h3 hp
   exact .inr ⟨b, o, h1, by simpa [World.setCell] using h2, fun j hj => (World.cell?_of_block (w := w) (a := ⟨b, o + j, none⟩) (Below.heap_setCell w ⟨p, i, none⟩ v b hne)).trans (h3 j hj)⟩
  ·exact .inl (List.length_eq_zero_iff.1 (by omega))
theorem Row.setBox2 {k : IntKind} {B : Nat} {w : World} {ao : Option Addr} {n cap : Nat} {l : List Nat} {p : Nat} {x : Bool} {a : Option Addr} {m c : Nat} {t : TypeId} (R : Row k B w ao n cap l)
  (hp : w.heap[p]? = some (.cells #[.bool x, .slice a m c] t (0, 0))) (y : Bool) (v : Value) : Row k B ((w.setCell ⟨p, 0, none⟩ (.bool y)).setCell ⟨p, 1, none⟩ v) ao n cap l :=
 (R.setBox hp 0 (.bool y)).setBox (blk_set hp (.bool y)) 1 v
theorem box_set2 {w : World} {p : Nat} {x : Bool} {a : Option Addr} {m c : Nat} {t : TypeId} (hp : w.heap[p]? = some (.cells #[.bool x, .slice a m c] t (0, 0))) (y : Bool) (v : Value) :
  ((w.setCell ⟨p, 0, none⟩ (.bool y)).setCell ⟨p, 1, none⟩ v).heap[p]? = some (.cells #[.bool y, v] t (0, 0)) := blk_set (blk_set hp (.bool y)) v
theorem box_set2_cells {w : World} {p : Nat} {x : Bool} {a : Option Addr} {m c : Nat} {t : TypeId} (hp : w.heap[p]? = some (.cells #[.bool x, .slice a m c] t (0, 0))) (y : Bool) (v : Value) (o : Obj) :
  (((w.setCell ⟨p, 0, none⟩ (.bool y)).setCell ⟨p, 1, none⟩ v).alloc o).cell? ⟨p, 0, none⟩ = some (.bool y) /\ (((w.setCell ⟨p, 0, none⟩ (.bool y)).setCell ⟨p, 1, none⟩ v).alloc o).cell? ⟨p, 1, none⟩ = some v := by
 have hb := box_set2 hp y v
 have hlt := (Array.getElem?_eq_some_iff.1 hb).1
 exact ⟨(cell_old _ _ _ _ hlt).trans (blk_cell hb 0), (cell_old _ _ _ _ hlt).trans (blk_cell hb 1)⟩
def Box (t : TypeId) (w : World) (p : Nat) (x : Bool) (a : Option Addr) (m c : Nat) : Prop := w.heap[p]? = some (.cells #[.bool x, .slice a m c] t (0, 0))
theorem Box.lt {t : TypeId} {w : World} {p : Nat} {x : Bool} {a : Option Addr} {m c : Nat} (h : Box t w p x a m c) : p < w.heap.size := (Array.getElem?_eq_some_iff.1 h).1
theorem Box.on {t : TypeId} {w w' : World} {p : Nat} {x : Bool} {a : Option Addr} {m c : Nat} (h : Box t w p x a m c) (hb : Below w.heap.size w w') : Box t w' p x a m c := (hb.block p h.lt).trans h
theorem Box.below {t : TypeId} {w w' : World} {p B : Nat} {x : Bool} {a : Option Addr} {m c : Nat} (h : Box t w p x a m c) (hb : Below B w w') (hp : p < B) : Box t w' p x a m c := (hb.block p hp).trans h
theorem Box.c {t : TypeId} {w : World} {p : Nat} {x : Bool} {a : Option Addr} {m c : Nat} (h : Box t w p x a m c) : w.cell? ⟨p, 0, none⟩ = some (.bool x) /\ w.cell? ⟨p, 1, none⟩ = some (.slice a m c) := ⟨blk_cell h 0, blk_cell h 1⟩
theorem Box.f {t : TypeId} {w : World} {p : Nat} {x : Bool} {a : Option Addr} {m c : Nat} (h : Box t w p x a m c) : w.frozen? ⟨p, 0, none⟩ = false /\ w.frozen? ⟨p, 1, none⟩ = false := ⟨blk_free h 0, blk_free h 1⟩
theorem Box.new (t : TypeId) (w : World) (x : Bool) (a : Option Addr) (m c : Nat) : Box t (w.alloc (.cells #[.bool x, .slice a m c] t)) w.heap.size x a m c := blk_new _ _ _
theorem Box.alloc {t : TypeId} {w : World} {p : Nat} {x : Bool} {a : Option Addr} {m c : Nat} (h : Box t w p x a m c) (o : Obj) : Box t (w.alloc o) p x a m c := h.on (Ba w o)
theorem Box.set2 {t : TypeId} {w : World} {p : Nat} {x : Bool} {a : Option Addr} {m c : Nat} (h : Box t w p x a m c) (y : Bool) (a' : Option Addr) (m' c' : Nat) : Box t ((w.setCell ⟨p, 0, none⟩ (.bool y)).setCell ⟨p, 1, none⟩ (.slice a' m' c')) p y a' m' c' := box_set2 h y _
theorem Box.far2 {t : TypeId} {w : World} {p q : Nat} {x : Bool} {a : Option Addr} {m c : Nat} (h : Box t w p x a m c) (hq : p ≠ q) (u v : Value) : Box t ((w.setCell ⟨q, 0, none⟩ u).setCell ⟨q, 1, none⟩ v) p x a m c :=
 (Below.heap_setCell _ _ _ _ hq).trans ((Below.heap_setCell _ _ _ _ hq).trans h)
theorem four_boxes (t : TypeId) (w : World) (x1 x2 x3 x4 : Bool) (a1 a2 a3 a4 : Option Addr) (m1 c1 m2 c2 m3 c3 m4 c4 : Nat) :
  ∀ W, W = ((((w.alloc (.cells #[.bool x1, .slice a1 m1 c1] t)).alloc (.cells #[.bool x2, .slice a2 m2 c2] t)).alloc (.cells #[.bool x3, .slice a3 m3 c3] t)).alloc (.cells #[.bool x4, .slice a4 m4 c4] t)) ->
  Box t W w.heap.size x1 a1 m1 c1 /\ Box t W (w.heap.size + 1) x2 a2 m2 c2 /\ Box t W (w.heap.size + 1 + 1) x3 a3 m3 c3 /\ Box t W (w.heap.size + 1 + 1 + 1) x4 a4 m4 c4 /\ Below w.heap.size w W := by
 intro W hW
 subst hW
 refine ⟨(((Box.new t w x1 a1 m1 c1).alloc _).alloc _).alloc _, ?_, ?_, ?_, Bt (Baaa w _ _ _) (Ba _ _)⟩
 ·have := ((Box.new t (w.alloc (.cells #[.bool x1, .slice a1 m1 c1] t)) x2 a2 m2 c2).alloc (.cells #[.bool x3, .slice a3 m3 c3] t)).alloc (.cells #[.bool x4, .slice a4 m4 c4] t)
  rwa [size_alloc] at this
 ·have := (Box.new t ((w.alloc (.cells #[.bool x1, .slice a1 m1 c1] t)).alloc (.cells #[.bool x2, .slice a2 m2 c2] t)) x3 a3 m3 c3).alloc (.cells #[.bool x4, .slice a4 m4 c4] t)
  rwa [size_alloc, size_alloc] at this
 ·have := Box.new t (((w.alloc (.cells #[.bool x1, .slice a1 m1 c1] t)).alloc (.cells #[.bool x2, .slice a2 m2 c2] t)).alloc (.cells #[.bool x3, .slice a3 m3 c3] t)) x4 a4 m4 c4
  rwa [size_alloc, size_alloc, size_alloc] at this
theorem three_boxes (t : TypeId) (w : World) (x1 x2 x3 : Bool) (a1 a2 a3 : Option Addr) (m1 c1 m2 c2 m3 c3 : Nat) :
  ∀ W, W = (((w.alloc (.cells #[.bool x1, .slice a1 m1 c1] t)).alloc (.cells #[.bool x2, .slice a2 m2 c2] t)).alloc (.cells #[.bool x3, .slice a3 m3 c3] t)) ->
  Box t W w.heap.size x1 a1 m1 c1 /\ Box t W (w.heap.size + 1) x2 a2 m2 c2 /\ Box t W (w.heap.size + 1 + 1) x3 a3 m3 c3 /\ Below w.heap.size w W := by
 intro W hW
 subst hW
 refine ⟨((Box.new t w x1 a1 m1 c1).alloc _).alloc _, ?_, ?_, Baaa w _ _ _⟩
 ·have := (Box.new t (w.alloc (.cells #[.bool x1, .slice a1 m1 c1] t)) x2 a2 m2 c2).alloc (.cells #[.bool x3, .slice a3 m3 c3] t)
  rwa [size_alloc] at this
 ·have := Box.new t ((w.alloc (.cells #[.bool x1, .slice a1 m1 c1] t)).alloc (.cells #[.bool x2, .slice a2 m2 c2] t)) x3 a3 m3 c3
  rwa [size_alloc, size_alloc] at this
theorem IntIs.open_ {w : World} {x : Value} {s : Bool} {l : List Nat} (h : IntIs w x s l) : ∃ ao n cap sg, x = .agg #[.bool sg, .slice ao n cap] /\ Hid (sg = s) /\ Row .u32 B32 w ao n cap l := by
 obtain ⟨ao, n, cap, h1, h2⟩ := h
 exact ⟨ao, n, cap, s, h1, rfl, h2⟩
def ltrB (n : Int) : Bool := decide (0 <= n) && decide (n <= 1114111) && (decide (n < 55296) || decide (57343 < n))
def rightB (k n t : Int) : Bool :=
 if k = 1 then decide (-1152921504606846976 <= n) && decide (n < 1152921504606846976)
 else if k = 2 then decide (0 <= n) && decide (n <= 1099511627776)
 else if k = 3 then decide (0 <= n) && decide (n <= 5)
 else if k = 4 then decide (0 <= n) && decide (n < 1073741824) && ltrB n
 else if k = 5 \/ k = 6 \/ k = 7 then decide (0 <= n) && decide (n <= 1073741824)
 else if k = 8 then decide (1 <= t) && decide (t <= 255) && (decide (0 <= n) && decide (n <= 1099511627776))
 else false
def wrdB (k n t : Int) : Int :=
 if k = 1 then (n * 8) % 18446744073709551616
 else if k = 2 then n * 8 + 1
 else if k = 3 then n * 8 + 2
 else if k = 8 then n * 2048 + t * 8 + 7
 else n * 256 + (k + 2) * 8 + 2
def wordR (k n t : Int) : Int := if rightB k n t then wrdB k n t else 0
def sgnW (w : Int) : Int := if w < 9223372036854775808 then w else w - 18446744073709551616
def ofRaw (w : Int) : Int × Int × Int :=
 if w % 8 = 0 then (1, sgnW w / 8, 0)
 else if w % 8 = 1 then (2, w / 8, 0)
 else if w % 8 = 2 then
  (if w / 8 % 32 <= 5 /\ w / 256 = 0 then (3, w / 8 % 32, 0)
   else if 6 <= w / 8 % 32 /\ w / 8 % 32 <= 9 then (w / 8 % 32 - 2, w / 256, 0) else (0, 0, 0))
 else if w % 8 = 7 then (8, w / 2048, w / 8 % 256)
 else (0, 0, 0)
def ofR (w : Int) : Int × Int × Int := if rightB (ofRaw w).1 (ofRaw w).2.1 (ofRaw w).2.2 then ofRaw w else (0, 0, 0)
def U64 (w : Int) : Prop := 0 <= w /\ w < 18446744073709551616
theorem ltrB_rng {n : Int} (h : ltrB n = true) : 0 <= n /\ n <= 1114111 := by
 unfold ltrB at h
 simp only [Bool.and_eq_true, Bool.or_eq_true, decide_eq_true_eq] at h
 omega
theorem right_cases {k n t : Int} (h : rightB k n t = true) :
  (k = 1 /\ -1152921504606846976 <= n /\ n < 1152921504606846976) \/ (k = 2 /\ 0 <= n /\ n <= 1099511627776) \/ (k = 3 /\ 0 <= n /\ n <= 5) \/ (k = 4 /\ 0 <= n /\ n <= 1114111 /\ ltrB n = true) \/ ((k = 5 \/ k = 6 \/ k = 7) /\ 0 <= n /\ n <= 1073741824) \/ (k = 8 /\ 1 <= t /\ t <= 255 /\ 0 <= n /\ n <= 1099511627776) := by
 unfold rightB at h
 split at h
 ·simp only [Bool.and_eq_true, decide_eq_true_eq] at h; omega
 split at h
 ·simp only [Bool.and_eq_true, decide_eq_true_eq] at h; omega
 split at h
 ·simp only [Bool.and_eq_true, decide_eq_true_eq] at h; omega
 split at h
 ·simp only [Bool.and_eq_true, decide_eq_true_eq] at h
  have := ltrB_rng h.2
  refine .inr (.inr (.inr (.inl ⟨by assumption, by omega, by omega, h.2⟩)))
 split at h
 ·simp only [Bool.and_eq_true, decide_eq_true_eq] at h; omega
 split at h
 ·simp only [Bool.and_eq_true, decide_eq_true_eq] at h; omega
 ·cases h
theorem wrd_rng {k n t : Int} (h : rightB k n t = true) : U64 (wrdB k n t) := by
 unfold U64 wrdB
 rcases right_cases h with ⟨rfl, h1⟩ | ⟨rfl, h1⟩ | ⟨rfl, h1⟩ | ⟨rfl, h1⟩ | ⟨h0, h1⟩ | ⟨rfl, h1⟩
 ·simp only [if_true]; omega
 ·simp only [show (2 : Int) ≠ 1 from by decide, if_true, if_false]; omega
 ·simp only [show (3 : Int) ≠ 1 from by decide, show (3 : Int) ≠ 2 from by decide, if_true, if_false]; omega
 ·simp only [show (4 : Int) ≠ 1 from by decide, show (4 : Int) ≠ 2 from by decide, show (4 : Int) ≠ 3 from by decide, show (4 : Int) ≠ 8 from by decide, if_true, if_false]; omega
 ·rw [if_neg (by omega), if_neg (by omega), if_neg (by omega), if_neg (by omega)]; omega
 ·simp only [show (8 : Int) ≠ 1 from by decide, show (8 : Int) ≠ 2 from by decide, show (8 : Int) ≠ 3 from by decide, if_true, if_false]; omega
theorem wordR_rng (k n t : Int) : U64 (wordR k n t) := by
 unfold wordR
 split
 ·exact wrd_rng (by assumption)
 ·unfold U64; omega
theorem raw_back {k n t : Int} (h : rightB k n t = true) : ofRaw (wrdB k n t) = (k, n, if k = 8 then t else 0) := by
 have hr := wrd_rng h
 unfold U64 wrdB at hr
 unfold ofRaw wrdB sgnW
 rcases right_cases h with ⟨rfl, h1, h2⟩ | ⟨rfl, h1, h2⟩ | ⟨rfl, h1, h2⟩ | ⟨rfl, h1, h2, h3⟩ | ⟨h0, h1, h2⟩ | ⟨rfl, h1, h2, h3, h4⟩
 ·simp only [if_true] at hr ⊢
  obtain ⟨m, hm⟩ : ∃ m, m = n * 8 % 18446744073709551616 := ⟨_, rfl⟩
  rw [<- hm] at hr ⊢
  rw [if_pos (by omega), if_neg (by decide : ¬ (1 : Int) = 8)]
  have e : (if m < 9223372036854775808 then m else m - 18446744073709551616) / 8 = n := by split <;> omega
  rw [e]
 ·simp only [show (2 : Int) ≠ 1 from by decide, if_true, if_false]
  rw [if_neg (by omega), if_pos (by omega), if_neg (by decide)]
  congr 2; omega
 ·simp only [show (3 : Int) ≠ 1 from by decide, show (3 : Int) ≠ 2 from by decide, if_true, if_false]
  rw [if_neg (by omega), if_neg (by omega), if_pos (by omega), if_pos (by omega), if_neg (by decide)]
  congr 2; omega
 ·simp only [show (4 : Int) ≠ 1 from by decide, show (4 : Int) ≠ 2 from by decide, show (4 : Int) ≠ 3 from by decide, show (4 : Int) ≠ 8 from by decide, if_true, if_false]
  rw [if_neg (by omega), if_neg (by omega), if_pos (by omega), if_neg (by omega), if_pos (by omega)]
  have e1 : (n * 256 + (4 + 2) * 8 + 2) / 8 % 32 - 2 = 4 := by omega
  have e2 : (n * 256 + (4 + 2) * 8 + 2) / 256 = n := by omega
  rw [e1, e2]
 ·rw [if_neg (by omega : ¬ k = 1), if_neg (by omega : ¬ k = 2), if_neg (by omega : ¬ k = 3), if_neg (by omega : ¬ k = 8), if_neg (by omega : ¬ k = 8)]
  rw [if_neg (by omega), if_neg (by omega), if_pos (by omega), if_neg (by omega), if_pos (by omega)]
  have e1 : (n * 256 + (k + 2) * 8 + 2) / 8 % 32 - 2 = k := by omega
  have e2 : (n * 256 + (k + 2) * 8 + 2) / 256 = n := by omega
  rw [e1, e2]
 ·simp only [show (8 : Int) ≠ 1 from by decide, show (8 : Int) ≠ 2 from by decide, show (8 : Int) ≠ 3 from by decide, if_true, if_false]
  rw [if_neg (by omega), if_neg (by omega), if_neg (by omega), if_pos (by omega)]
  have e1 : (n * 2048 + t * 8 + 7) / 8 % 256 = t := by omega
  have e2 : (n * 2048 + t * 8 + 7) / 2048 = n := by omega
  rw [e1, e2]
theorem right_norm {k n t : Int} : rightB k n (if k = 8 then t else 0) = rightB k n t := by
 unfold rightB
 by_cases h : k = 8
 ·simp only [if_pos h]
 ·simp only [if_neg h]
theorem word_back {k n t : Int} (h : rightB k n t = true) : ofR (wordR k n t) = (k, n, if k = 8 then t else 0) := by
 unfold wordR ofR
 rw [if_pos h, raw_back h]
 simp only [right_norm, h, if_true]
theorem ofR_right {w : Int} : ofR w = (0, 0, 0) \/ rightB (ofR w).1 (ofR w).2.1 (ofR w).2.2 = true := by
 unfold ofR
 split
 ·right; assumption
 ·left; rfl
end Go.Proofs.YtdekkieajffblaaGreatDoor
