import Derived.Test.YtbkfinjajkjhaaaGreatDoorW5
import Derived.Deep.RegionHeld3
import Derived.Test.YtbkfinjajkjhaaaGreatDoorOnto
set_option linter.unusedVariables false
set_option linter.unusedSimpArgs false
namespace Go.Proofs.YtbkfinjajkjhaaaGreatDoor
open Go.RowKit
def lw (b : List Nat) (j : Nat) : Nat := val 256 ((b.drop (4 * j)).take 4)
def lws (b : List Nat) (j : Nat) : List Nat := (List.range j).map (lw b)
theorem lws_length (b : List Nat) (j : Nat) : (lws b j).length = j := by simp [lws]
theorem lws_succ (b : List Nat) (j : Nat) : lws b (j + 1) = lws b j ++ [lw b j] := by simp [lws, List.range_succ]
theorem pow_256_4 (j : Nat) : 256 ^ (4 * j) = B32 ^ j := by
 rw [Nat.pow_mul]; rfl
theorem B32_pow : (256 : Nat) ^ 4 = B32 := rfl
theorem lw_lt {b : List Nat} (h : Dg 256 b) (j : Nat) : lw b j < B32 := by
 have h1 := val_lt ((h.drop (4 * j)).take 4)
 have h2 : (256 : Nat) ^ ((b.drop (4 * j)).take 4).length <= 256 ^ 4 := Nat.pow_le_pow_right (by decide) (by rw [List.length_take]; omega)
 rw [B32_pow] at h2
 unfold lw; omega
theorem lws_dg {b : List Nat} (h : Dg 256 b) (j : Nat) : Dg B32 (lws b j) := by
 intro x hx
 obtain ⟨i, _, rfl⟩ := List.mem_map.1 hx
 exact lw_lt h i
theorem lws_val (b : List Nat) : ∀ j, 4 * j <= b.length + 3 -> val B32 (lws b j) = val 256 (b.take (4 * j))
 | 0, _ => by simp [lws, val]
 | j + 1, h => by
  have ih := lws_val b j (by omega)
  have e1 : b.take (4 * (j + 1)) = b.take (4 * j) ++ (b.drop (4 * j)).take 4 := by
   rw [show 4 * (j + 1) = 4 * j + 4 by omega, List.take_add]
  rw [lws_succ, val_snoc, ih, e1, val_append, lws_length, List.length_take, Nat.min_eq_left (by omega), pow_256_4]
  rfl
theorem lws_tr {b : List Nat} (ht : Tr b) (j : Nat) (h1 : b.length <= 4 * j) (h2 : 4 * j <= b.length + 3) : Tr (lws b j) := by
 by_cases hj : j = 0
 ·subst hj; exact .inl rfl
 ·refine .inr ?_
  have hl : 0 < b.length := by omega
  have hd : b.getD (b.length - 1) 0 ≠ 0 := ht.resolve_left (by intro e; simp [e] at hl)
  have e1 : (b.drop (4 * (j - 1))).take 4 = b.drop (4 * (j - 1)) := List.take_of_length_le (by rw [List.length_drop]; omega)
  have e2 : (lws b j).getD ((lws b j).length - 1) 0 = lw b (j - 1) := by
   rw [lws_length]
   obtain ⟨i, rfl⟩ : ∃ i, j = i + 1 := ⟨j - 1, by omega⟩
   rw [lws_succ, getD_append_at (by rw [lws_length]; omega)]; rfl
  rw [e2]
  unfold lw
  rw [e1]
  have ht2 : Tr (b.drop (4 * (j - 1))) := by
   refine .inr ?_
   rw [List.getD_eq_getElem?_getD, List.getElem?_drop, <- List.getD_eq_getElem?_getD, List.length_drop, show 4 * (j - 1) + (b.length - 4 * (j - 1) - 1) = b.length - 1 by omega]
   exact hd
  refine ht2.ne_zero (by decide) ?_
  intro e
  have := congrArg List.length e
  rw [List.length_drop] at this
  simp at this; omega
theorem acc_step (b : List Nat) (j k : Nat) (h : 4 * j + k < b.length) : val 256 ((b.drop (4 * j)).take (k + 1)) = val 256 ((b.drop (4 * j)).take k) + 256 ^ k * b.getD (4 * j + k) 0 := by
 rw [val_take_succ 256 _ k (by rw [List.length_drop]; omega), List.getD_eq_getElem?_getD, List.getElem?_drop, <- List.getD_eq_getElem?_getD]
theorem acc_lt {b : List Nat} (h : Dg 256 b) (j k : Nat) : val 256 ((b.drop (4 * j)).take k) < 256 ^ k := by
 have h1 := val_lt ((h.drop (4 * j)).take k)
 have h2 : (256 : Nat) ^ ((b.drop (4 * j)).take k).length <= 256 ^ k := Nat.pow_le_pow_right (by decide) (by rw [List.length_take]; omega)
 omega
def Big (v : Nat) : Prop := B32 ^ 40 <= v
def Ans (w : World) (x : Value) (en : Int) (neg : Bool) (v : Nat) : Prop :=
 (¬ Big v /\ en = 0 /\ ∃ l, IntIs w x (neg && decide (l ≠ [])) l /\ Tr l /\ val B32 l = v) \/ (Big v /\ en = 10 /\ x = .agg #[.bool false, .slice none 0 0])
theorem small_len {l : List Nat} (hl : Dg B32 l) (ht : Tr l) : l.length <= 40 ↔ ¬ Big (val B32 l) := by
 rw [val_lt_iff (by decide) hl ht]; unfold Big; omega
theorem or_u32_8 (a d : Nat) (h1 : a < 256) (h2 : d < 256) : bits .or .u32 (a : Int) ((d : Int) * 256) = ((a + 256 * d : Nat) : Int) := by
 rw [show ((d : Int) * 256) = ((d * 256 : Nat) : Int) by omega, u32_or_nat _ _ (by omega) (by omega), Nat.or_comm, nat_join 8 _ _ (by omega) (by omega)]; omega
theorem or_u32_16 (a d : Nat) (h1 : a < 65536) (h2 : d < 256) : bits .or .u32 (a : Int) ((d : Int) * 65536) = ((a + 65536 * d : Nat) : Int) := by
 rw [show ((d : Int) * 65536) = ((d * 65536 : Nat) : Int) by omega, u32_or_nat _ _ (by omega) (by omega), Nat.or_comm, nat_join 16 _ _ (by omega) (by omega)]; omega
theorem or_u32_24 (a d : Nat) (h1 : a < 16777216) (h2 : d < 256) : bits .or .u32 (a : Int) ((d : Int) * 16777216) = ((a + 16777216 * d : Nat) : Int) := by
 rw [show ((d : Int) * 16777216) = ((d * 16777216 : Nat) : Int) by omega, u32_or_nat _ _ (by omega) (by omega), Nat.or_comm, nat_join 24 _ _ (by omega) (by omega)]; omega
theorem or_u32_0 (d : Nat) (h2 : d < 256) : bits .or .u32 0 (d : Int) = ((d : Nat) : Int) := by
 have := u32_or_nat 0 d (by omega) (by omega)
 rw [Nat.zero_or] at this; exact this
theorem blk_set {w : World} {g i : Nat} {c : Array Value} {t : TypeId} (h : w.heap[g]? = some (.cells c t (0, 0))) (v : Value) : (w.setCell ⟨g, i, none⟩ v).heap[g]? = some (.cells (c.setIfInBounds i v) t (0, 0)) := by
 simp [World.setCell, Array.getElem?_modify, h]
theorem blk_cell {w : World} {g : Nat} {c : Array Value} {t : TypeId} (h : w.heap[g]? = some (.cells c t (0, 0))) (i : Nat) : w.cell? ⟨g, i, none⟩ = c[i]? := by simp [World.cell?, h]
theorem blk_free {w : World} {g : Nat} {c : Array Value} {t : TypeId} (h : w.heap[g]? = some (.cells c t (0, 0))) (i : Nat) : w.frozen? ⟨g, i, none⟩ = false := by simp [World.frozen?, h]
theorem blk_new (w : World) (c : Array Value) (t : TypeId) : (w.alloc (.cells c t)).heap[w.heap.size]? = some (.cells c t (0, 0)) := heap_alloc_new w _
theorem ne_box {k : IntKind} {w : World} {l : List Nat} {p b o : Nat} {x : Bool} {a : Option Addr} {m c : Nat} {t : TypeId} (hl : 0 < l.length)
  (hc : ∀ i, i < l.length -> w.cell? ⟨b, o + i, none⟩ = some (.int k (l.getD i 0 : Nat))) (hp : w.heap[p]? = some (.cells #[.bool x, .slice a m c] t (0, 0))) : b ≠ p := by
 intro e
 subst e
 have h1 := hc 0 hl
 rw [blk_cell hp] at h1
 simp only [Nat.add_zero] at h1
 match o, h1 with
 | 0, h1 => simp at h1
 | 1, h1 => simp at h1
 | o + 2, h1 => simp at h1
theorem Row.setBox {k : IntKind} {B : Nat} {w : World} {ao : Option Addr} {n cap : Nat} {l : List Nat} {p : Nat} {x : Bool} {a : Option Addr} {m c : Nat} {t : TypeId} (R : Row k B w ao n cap l)
  (hp : w.heap[p]? = some (.cells #[.bool x, .slice a m c] t (0, 0))) (i : Nat) (v : Value) : Row k B (w.setCell ⟨p, i, none⟩ v) ao n cap l := by
 refine ⟨R.len, R.fits, R.most, R.nil_, R.dg, ?_⟩
 rcases R.rd with h | ⟨b, o, h1, h2, h3⟩
 ·exact .inl h
 ·by_cases hl : 0 < l.length
  ·have hne := ne_box hl h3 hp
   exact .inr ⟨b, o, h1, by simpa [World.setCell] using h2, fun j hj => (World.cell?_of_block (w := w) (a := ⟨b, o + j, none⟩) (Below.heap_setCell w ⟨p, i, none⟩ v b hne)).trans (h3 j hj)⟩
  ·exact .inl (List.length_eq_zero_iff.1 (by omega))
theorem Row.setBox2 {k : IntKind} {B : Nat} {w : World} {ao : Option Addr} {n cap : Nat} {l : List Nat} {p : Nat} {x : Bool} {a : Option Addr} {m c : Nat} {t : TypeId} (R : Row k B w ao n cap l)
  (hp : w.heap[p]? = some (.cells #[.bool x, .slice a m c] t (0, 0))) (y : Bool) (v : Value) : Row k B ((w.setCell ⟨p, 0, none⟩ (.bool y)).setCell ⟨p, 1, none⟩ v) ao n cap l :=
 (R.setBox hp 0 (.bool y)).setBox (blk_set hp (.bool y)) 1 v
theorem box_set2 {w : World} {p : Nat} {x : Bool} {a : Option Addr} {m c : Nat} {t : TypeId} (hp : w.heap[p]? = some (.cells #[.bool x, .slice a m c] t (0, 0))) (y : Bool) (v : Value) :
  ((w.setCell ⟨p, 0, none⟩ (.bool y)).setCell ⟨p, 1, none⟩ v).heap[p]? = some (.cells #[.bool y, v] t (0, 0)) := blk_set (blk_set hp (.bool y)) v
theorem box_set2_cells {w : World} {p : Nat} {x : Bool} {a : Option Addr} {m c : Nat} {t : TypeId} (hp : w.heap[p]? = some (.cells #[.bool x, .slice a m c] t (0, 0))) (y : Bool) (v : Value) (o : Obj) :
  (((w.setCell ⟨p, 0, none⟩ (.bool y)).setCell ⟨p, 1, none⟩ v).alloc o).cell? ⟨p, 0, none⟩ = some (.bool y) /\ (((w.setCell ⟨p, 0, none⟩ (.bool y)).setCell ⟨p, 1, none⟩ v).alloc o).cell? ⟨p, 1, none⟩ = some v := by
 have hb := box_set2 hp y v
 have hlt := (Array.getElem?_eq_some_iff.1 hb).1
 exact ⟨(cell_old _ _ _ _ hlt).trans (blk_cell hb 0), (cell_old _ _ _ _ hlt).trans (blk_cell hb 1)⟩
def Box (t : TypeId) (w : World) (p : Nat) (x : Bool) (a : Option Addr) (m c : Nat) : Prop := w.heap[p]? = some (.cells #[.bool x, .slice a m c] t (0, 0))
theorem Box.lt {t : TypeId} {w : World} {p : Nat} {x : Bool} {a : Option Addr} {m c : Nat} (h : Box t w p x a m c) : p < w.heap.size := (Array.getElem?_eq_some_iff.1 h).1
theorem Box.on {t : TypeId} {w w' : World} {p : Nat} {x : Bool} {a : Option Addr} {m c : Nat} (h : Box t w p x a m c) (hb : Below w.heap.size w w') : Box t w' p x a m c := (hb.block p h.lt).trans h
theorem Box.below {t : TypeId} {w w' : World} {p B : Nat} {x : Bool} {a : Option Addr} {m c : Nat} (h : Box t w p x a m c) (hb : Below B w w') (hp : p < B) : Box t w' p x a m c := (hb.block p hp).trans h
theorem Box.c {t : TypeId} {w : World} {p : Nat} {x : Bool} {a : Option Addr} {m c : Nat} (h : Box t w p x a m c) : w.cell? ⟨p, 0, none⟩ = some (.bool x) /\ w.cell? ⟨p, 1, none⟩ = some (.slice a m c) := ⟨blk_cell h 0, blk_cell h 1⟩
theorem Box.f {t : TypeId} {w : World} {p : Nat} {x : Bool} {a : Option Addr} {m c : Nat} (h : Box t w p x a m c) : w.frozen? ⟨p, 0, none⟩ = false /\ w.frozen? ⟨p, 1, none⟩ = false := ⟨blk_free h 0, blk_free h 1⟩
theorem Box.new (t : TypeId) (w : World) (x : Bool) (a : Option Addr) (m c : Nat) : Box t (w.alloc (.cells #[.bool x, .slice a m c] t)) w.heap.size x a m c := blk_new _ _ _
theorem Box.alloc {t : TypeId} {w : World} {p : Nat} {x : Bool} {a : Option Addr} {m c : Nat} (h : Box t w p x a m c) (o : Obj) : Box t (w.alloc o) p x a m c := h.on (Ba w o)
theorem Box.set2 {t : TypeId} {w : World} {p : Nat} {x : Bool} {a : Option Addr} {m c : Nat} (h : Box t w p x a m c) (y : Bool) (a' : Option Addr) (m' c' : Nat) : Box t ((w.setCell ⟨p, 0, none⟩ (.bool y)).setCell ⟨p, 1, none⟩ (.slice a' m' c')) p y a' m' c' := box_set2 h y _
theorem IntIs.open_ {w : World} {x : Value} {s : Bool} {l : List Nat} (h : IntIs w x s l) : ∃ ao n cap sg, x = .agg #[.bool sg, .slice ao n cap] /\ Hid (sg = s) /\ Row .u32 B32 w ao n cap l := by
 obtain ⟨ao, n, cap, h1, h2⟩ := h
 exact ⟨ao, n, cap, s, h1, rfl, h2⟩
theorem blk_on {w w2 : World} {o : Obj} {p : Nat} {c : Array Value} {t : TypeId} (h : w.heap[p]? = some (.cells c t (0, 0))) (hb : Below (p + 1) (w.alloc o) w2) : w2.heap[p]? = some (.cells c t (0, 0)) :=
 (hb.block p (by omega)).trans ((Below.heap_alloc w o p (Array.getElem?_eq_some_iff.1 h).1).trans h)
set_option maxHeartbeats 2000000 in
theorem rwhole_any (neg : Bool) (ao : Option Addr) (n cap : Nat) (b : List Nat) (w : World) (R : Row .u8 256 w ao n cap b) (hs : n <= 1000) :
  Calls Tryz.prog 56 #[.bool neg, .slice ao n cap] w fun e w' => ∃ x en, e = .returned (.tuple #[x, .int .i64 en]) /\ Ans w' x en neg (val 256 b) /\ Below w.heap.size w w' := by
 have HR := hid R
 clear R
 go_enter Tryz.func56, Tryz.ntmps56
 go_wp2_with fail
 refine (rtrim_any ao n cap b _ (HR.out.below (Ba _ _)) hs).mono ?_
 rintro e w1 ⟨m, ao1, cap1, hm, rfl, hO, ht, hv, hb1⟩
 have hd0 : w1.heap[w.heap.size]? = some (.cells #[.bool false, .slice none 0 0] 55 (0, 0)) := (hb1.block w.heap.size (by simp)).trans (blk_new _ _ _)
 have hlen := hO.row.len
 generalize b.take m = r at *
 have hcap1 := hO.row.fits
 have hmax1 := hO.row.most
 unfold maxLen at hmax1
 have HO := hid hO
 have HT := hid ht
 have HV := hid hv
 have HB := hid (Bt (Ba w (.cells #[.bool false, .slice none 0 0] 55)) hb1)
 have HL := hid hlen
 have HD0 := hid hd0
 have hsz : w.heap.size < w1.heap.size := (Array.getElem?_eq_some_iff.1 hd0).1
 clear hO ht hv hb1 hlen hd0 HR
 obtain ⟨sg, hsg⟩ : ∃ sg, sg = (neg && decide (0 < m)) := ⟨_, rfl⟩
 have HSG := hid hsg
 clear hsg
 cases neg
 all_goals
  go_wp2
  go_loopw [7, 8, 9] (fun i _ _ wr => ∃ j : Nat, ∃ v, i = .int .i64 ((4 * j : Nat) : Int) /\ 4 * j <= m + 3 /\ Hid (wr.heap[w1.heap.size]? = some (.cells #[.bool sg, v] 55 (0, 0)) /\ wr.ownsRow (w1.heap.size + 1) 97 1 v j (cs .u32 (lws r j)) /\ Below w1.heap.size w1 wr)) (fun i _ _ _ => m + 3 - (intOf i).toNat)
  case atStart =>
   refine ⟨0, .slice none 0 0, rfl, by omega, ?_, ?_, Ba _ _⟩
   ·rw [HSG.out]; exact blk_new _ _ _
   ·simpa [lws, cs] using World.ownsRow_nil _ _ _ _
  case round =>
   obtain ⟨j, v, rfl, hj, hH⟩ := hrel
   obtain ⟨h1, h2, h3⟩ := hH.out
   have hc0 := blk_cell h1 0
   have hc1 := blk_cell h1 1
   have hf1 := blk_free h1 1
   simp at hc0 hc1
   have hz1 : w1.heap.size < wr.heap.size := (Array.getElem?_eq_some_iff.1 h1).1
   have HZ1 := hid hz1
   have H2 := hid h2
   have H3 := hid h3
   have H1 := hid h1
   clear h1 h2 h3 hH hz1
   by_cases hlt : 4 * j < m
   ·obtain ⟨bb, o, rfl, hl, hcl⟩ := HO.out.row.rd.some (by rw [HL.out]; omega)
    have HCL : Hid (∀ i, i < m -> wr.cell? ⟨bb, o + i, none⟩ = some (.int .u8 (r.getD i 0 : Nat))) := fun i hi => (H3.out.cell (p := ⟨bb, o + i, none⟩) hl).trans (hcl i (by rw [HL.out]; exact hi))
    clear hcl
    go_wp2
    go_loop [8, 9] (fun a k => ∃ q acc : Nat, q <= 4 /\ 4 * j + q <= m /\ k = .int .i64 q /\ a = .int .u32 acc /\ Hid (acc = val 256 ((r.drop (4 * j)).take q))) (fun _ k => 4 - (intOf k).toNat)
    case atStart => exact ⟨0, 0, by omega, by omega, rfl, rfl, rfl⟩
    case round =>
     obtain ⟨q, acc, hq, hqm, rfl, rfl, hacc⟩ := hrel
     have hlim : acc < 256 ^ q := by rw [hacc.out]; exact acc_lt HO.out.row.dg j q
     by_cases hgo : q < 4 /\ 4 * j + q < m
     ·obtain ⟨hq4, hqlt⟩ := hgo
      have hcd := HCL.out (4 * j + q) hqlt
      obtain ⟨d, hd⟩ : ∃ d, d = r.getD (4 * j + q) 0 := ⟨_, rfl⟩
      have hdb : d < 256 := by rw [hd]; exact HO.out.row.dg.getD _ (by rw [HL.out]; exact hqlt)
      rw [<- hd] at hcd
      have HS : Hid (val 256 ((r.drop (4 * j)).take (q + 1)) = acc + 256 ^ q * d) := by
       unfold Hid; rw [acc_step r j q (by rw [HL.out]; exact hqlt), <- hacc.out, <- hd]
      clear hd hacc
      have hq' : q = 0 \/ q = 1 \/ q = 2 \/ q = 3 := by omega
      rcases hq' with rfl | rfl | rfl | rfl
      ·obtain rfl : acc = 0 := by simp at hlim; exact hlim
       have hor := or_u32_0 d hdb
       simp only [Nat.add_zero] at hcd
       clear hlim
       go_wp2
       exact ⟨⟨1, d, by omega, by omega, rfl, rfl, by unfold Hid; rw [HS.out]; omega⟩, by simp [intOf]⟩
      ·have hor := or_u32_8 acc d (by omega) hdb
       obtain ⟨A, hA⟩ : ∃ A, A = acc + 256 * d := ⟨_, rfl⟩
       rw [<- hA] at hor
       have HA := hid hA
       clear hlim hA
       go_wp2
       exact ⟨⟨2, A, by omega, by omega, rfl, rfl, by unfold Hid; rw [HS.out, HA.out]⟩, by simp [intOf]⟩
      ·have hor := or_u32_16 acc d (by omega) hdb
       obtain ⟨A, hA⟩ : ∃ A, A = acc + 65536 * d := ⟨_, rfl⟩
       rw [<- hA] at hor
       have HA := hid hA
       clear hlim hA
       go_wp2
       exact ⟨⟨3, A, by omega, by omega, rfl, rfl, by unfold Hid; rw [HS.out, HA.out]⟩, by simp [intOf]⟩
      ·have hor := or_u32_24 acc d (by omega) hdb
       obtain ⟨A, hA⟩ : ∃ A, A = acc + 16777216 * d := ⟨_, rfl⟩
       rw [<- hA] at hor
       have HA := hid hA
       clear hlim hA
       go_wp2
       exact ⟨⟨4, A, by omega, by omega, rfl, rfl, by unfold Hid; rw [HS.out, HA.out]⟩, by simp [intOf]⟩
     ·have HLW : Hid (acc = lw r j) := by
       unfold Hid lw; rw [hacc.out]
       by_cases h4 : q = 4
       ·rw [h4]
       ·have hqe : 4 * j + q = m := by omega
        rw [List.take_of_length_le (l := r.drop (4 * j)) (i := q) (by rw [List.length_drop, HL.out]; omega), List.take_of_length_le (l := r.drop (4 * j)) (i := 4) (by rw [List.length_drop, HL.out]; omega)]
      have hgo' : q = 4 \/ q < 4 /\ 4 * j + q = m := by omega
      have hacb : acc < 4294967296 := by rw [HLW.out]; exact lw_lt HO.out.row.dg j
      clear hacc hlim hgo
      rcases hgo' with rfl | ⟨hq4, hqe⟩
      all_goals
       go_wp2_with (at_builtin; refine app1 rfl _ _ 53 rfl (w1.heap.size + 1) 97 .u32 4 (by decide) Tryz.underlying53 info_u32 _ _ _ rfl (H2.out.alloc _) ⟨wr.heap.size, 0, none⟩ 1 acc rfl (cell_new _ _ _) (by omega) (by have := HZ1.out; simp; omega) ?_; intro g cap' w2 hown hbel; have hk := blk_on H1.out hbel; have hk1 : w2.cell? ⟨w1.heap.size, 1, none⟩ = some v := blk_cell hk 1; have hkf := blk_free hk 1; have HK := hid hk; have HW := hid hown; have HE := hid hbel; clear hk hown hbel)
       refine ⟨⟨j + 1, .slice (some ⟨g, 0, none⟩) (j + 1) cap', by go_num, by omega, blk_set HK.out _, ?_, ?_⟩, by simp [intOf]; omega⟩
       ·rw [lws_succ, <- HLW.out]; exact ownsRow_setCell_below HW.out (by simp) _
       ·exact ((H3.out.alloc (by have := HZ1.out; omega) _).trans (HE.out.mono (by omega))).setCell (Nat.le_refl _) _
   ·have hjm : m <= 4 * j := by omega
    obtain ⟨ao2, cap2, hu, hO2⟩ := own_of H2.out (lws_dg HO.out.row.dg j)
    subst hu
    have HV2 : Hid (val B32 (lws r j) = val 256 b) := by
     unfold Hid; rw [lws_val r j (by rw [HL.out]; exact hj), List.take_of_length_le (by rw [HL.out]; exact hjm), HV.out]
    have HT2 := hid (lws_tr HT.out j (by rw [HL.out]; exact hjm) (by rw [HL.out]; exact hj))
    have HO2 := hid hO2
    have HSG2 : Hid (decide (0 < m) = decide (lws r j ≠ [])) := by
     unfold Hid
     rw [decide_eq_decide, <- List.length_pos_iff, lws_length]
     omega
    have hbnd := hO2.row.most
    have hft2 := hO2.row.fits
    unfold maxLen at hbnd
    have hd0 : wr.heap[w.heap.size]? = some (.cells #[.bool false, .slice none 0 0] 55 (0, 0)) := (H3.out.block _ hsz).trans HD0.out
    have hq0 := blk_cell hd0 0
    have hq1 := blk_cell hd0 1
    have hqf0 := blk_free hd0 0
    have hqf1 := blk_free hd0 1
    simp at hq0 hq1
    have HQ := hid hd0
    clear hd0 hO2
    have HB3 := hid (HB.out.trans (H3.out.mono (Nat.le_of_lt hsz)))
    by_cases h40 : j <= 40
    ·have e40 : decide ((40 : Int) < j) = false := by simp; omega
     go_wp2
     refine bodyPost_ret (v := .tuple #[.agg #[.bool sg, .slice ao2 j cap2], .int .i64 0]) (by simp [results, Tryz.results56, go_sem, hq0, hq1]) rfl ⟨_, _, rfl, .inl ⟨?_, rfl, lws r j, ⟨ao2, j, cap2, ?_, ((HO2.out.setFar (p := ⟨w.heap.size, 0, none⟩) (by simp; omega) _).setFar (p := ⟨w.heap.size, 1, none⟩) (by simp; omega) _).row⟩, HT2.out, HV2.out⟩, (HB3.out.setCell (Nat.le_refl _) _).setCell (Nat.le_refl _) _⟩
     ·rw [<- HV2.out, <- small_len (lws_dg HO.out.row.dg j) HT2.out, lws_length]; exact h40
     ·rw [HSG.out, HSG2.out]
    ·have e40 : decide ((40 : Int) < j) = true := by simp; omega
     go_wp2
     refine bodyPost_ret (v := .tuple #[.agg #[.bool false, .slice none 0 0], .int .i64 10]) (by simp [results, Tryz.results56, go_sem, hq0, hq1]) rfl ⟨_, _, rfl, .inr ⟨?_, rfl, rfl⟩, (HB3.out.setCell (Nat.le_refl _) _).setCell (Nat.le_refl _) _⟩
     have := (small_len (lws_dg HO.out.row.dg j) HT2.out)
     rw [lws_length, HV2.out] at this
     exact Classical.byContradiction fun h => h40 (this.2 h)
end Go.Proofs.YtbkfinjajkjhaaaGreatDoor
