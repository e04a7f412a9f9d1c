import Derived.Test.YtadfihnffboelaaGreatDoorW43
import Derived.Lib.ValidLaws
import Derived.Lib.RuneCount
import Derived.Laws.BitsAllLaws
set_option linter.unusedVariables false
set_option linter.unusedSimpArgs false
namespace Go.Proofs.YtadfihnffboelaaGreatDoor
open Go.RowKit
structure Nd where
 kind : Int
 num : Int
 text : ByteArray
 kids : List Int
instance : Inhabited Nd := ⟨⟨0, 0, ByteArray.empty, []⟩⟩
def I64 (z : Int) : Prop := -9223372036854775808 <= z /\ z <= 9223372036854775807
structure IRow (w : World) (ao : Option Addr) (n cap : Nat) (l : List Int) : Prop where
 len : l.length = n
 fits : n <= cap
 most : cap <= maxLen
 nil_ : ao = none -> cap = 0
 bd : ∀ z ∈ l, I64 z
 rd : l = [] \/ ∃ b o, ao = some ⟨b, o, none⟩ /\ b < w.heap.size /\ ∀ i, i < l.length -> w.cell? ⟨b, o + i, none⟩ = some (.int .i64 (l.getD i 0))
theorem IRow.some {w : World} {ao : Option Addr} {n cap : Nat} {l : List Int} (h : IRow w ao n cap l) (hl : 0 < n) :
  ∃ b o, ao = some ⟨b, o, none⟩ /\ b < w.heap.size /\ ∀ i, i < n -> w.cell? ⟨b, o + i, none⟩ = some (.int .i64 (l.getD i 0)) := by
 rcases h.rd with e | h2
 ·have := h.len; simp [e] at this; omega
 ·rw [h.len] at h2; exact h2
theorem IRow.below {w w' : World} {ao : Option Addr} {n cap : Nat} {l : List Int} (h : IRow w ao n cap l) (hb : Below w.heap.size w w') : IRow w' ao n cap l := by
 refine ⟨h.len, h.fits, h.most, h.nil_, h.bd, ?_⟩
 rcases h.rd with e | ⟨b, o, e, hl, hc⟩
 ·exact .inl e
 ·exact .inr ⟨b, o, e, Nat.lt_of_lt_of_le hl hb.size, fun i hi => (hb.cell (p := ⟨b, o + i, none⟩) hl).trans (hc i hi)⟩
theorem IRow.nil (w : World) (ao : Option Addr) : IRow w ao 0 0 [] := ⟨rfl, Nat.le_refl _, Nat.zero_le _, fun _ => rfl, fun _ h => (by cases h), .inl rfl⟩
theorem IRow.get {w : World} {ao : Option Addr} {n cap : Nat} {l : List Int} (h : IRow w ao n cap l) {i : Nat} (hi : i < n) : I64 (l.getD i 0) := by
 have hi' : i < l.length := by rw [h.len]; exact hi
 rw [List.getD_eq_getElem?_getD, List.getElem?_eq_getElem hi']
 exact h.bd _ (List.getElem_mem hi')
def NdAt (w : World) (b o : Nat) (d : Nd) : Prop :=
 w.cell? ⟨b, o, none⟩ = some (.int .i64 d.kind) /\ w.cell? ⟨b, o + 1, none⟩ = some (.int .i64 d.num) /\ w.cell? ⟨b, o + 2, none⟩ = some (.string d.text) /\
  ∃ ao n cap, w.cell? ⟨b, o + 3, none⟩ = some (.slice ao n cap) /\ IRow w ao n cap d.kids
theorem NdAt.below {w w' : World} {b o : Nat} {d : Nd} (h : NdAt w b o d) (hl : b < w.heap.size) (hb : Below w.heap.size w w') : NdAt w' b o d := by
 obtain ⟨h1, h2, h3, ao, n, cap, h4, h5⟩ := h
 exact ⟨(hb.cell (p := ⟨b, o, none⟩) hl).trans h1, (hb.cell (p := ⟨b, o + 1, none⟩) hl).trans h2, (hb.cell (p := ⟨b, o + 2, none⟩) hl).trans h3, ao, n, cap, (hb.cell (p := ⟨b, o + 3, none⟩) hl).trans h4, h5.below hb⟩
def NdOk (d : Nd) : Prop := I64 d.kind /\ I64 d.num /\ d.text.size <= maxLen
structure NRow (w : World) (ao : Option Addr) (n cap : Nat) (l : List Nd) : Prop where
 len : l.length = n
 fits : n <= cap
 most : cap <= maxLen
 nil_ : ao = none -> cap = 0
 ok : ∀ d ∈ l, NdOk d
 rd : l = [] \/ ∃ b o, ao = some ⟨b, o, none⟩ /\ b < w.heap.size /\ ∀ i, i < l.length -> NdAt w b (o + i * 4) (l.getD i default)
theorem NRow.some {w : World} {ao : Option Addr} {n cap : Nat} {l : List Nd} (h : NRow w ao n cap l) (hl : 0 < n) :
  ∃ b o, ao = some ⟨b, o, none⟩ /\ b < w.heap.size /\ ∀ i, i < n -> NdAt w b (o + i * 4) (l.getD i default) := by
 rcases h.rd with e | h2
 ·have := h.len; simp [e] at this; omega
 ·rw [h.len] at h2; exact h2
theorem NRow.below {w w' : World} {ao : Option Addr} {n cap : Nat} {l : List Nd} (h : NRow w ao n cap l) (hb : Below w.heap.size w w') : NRow w' ao n cap l := by
 refine ⟨h.len, h.fits, h.most, h.nil_, h.ok, ?_⟩
 rcases h.rd with e | ⟨b, o, e, hl, hc⟩
 ·exact .inl e
 ·exact .inr ⟨b, o, e, Nat.lt_of_lt_of_le hl hb.size, fun i hi => (hc i hi).below hl hb⟩
theorem NRow.get {w : World} {ao : Option Addr} {n cap : Nat} {l : List Nd} (h : NRow w ao n cap l) {i : Nat} (hi : i < n) : NdOk (l.getD i default) := by
 have hi' : i < l.length := by rw [h.len]; exact hi
 rw [List.getD_eq_getElem?_getD, List.getElem?_eq_getElem hi']
 exact h.ok _ (List.getElem_mem hi')
theorem NRow.nil (w : World) (ao : Option Addr) : NRow w ao 0 0 [] := ⟨rfl, Nat.le_refl _, Nat.zero_le _, fun _ => rfl, fun _ h => (by cases h), .inl rfl⟩
def GVal (an : Option Addr) (nn cn : Nat) (ar : Option Addr) (nr cr : Nat) : Value := .agg #[.slice an nn cn, .slice ar nr cr]
structure GIs (w : World) (an : Option Addr) (nn cn : Nat) (ar : Option Addr) (nr cr : Nat) (ns : List Nd) (rs : List Int) : Prop where
 nodes : NRow w an nn cn ns
 roots : IRow w ar nr cr rs
theorem GIs.below {w w' : World} {an ar : Option Addr} {nn cn nr cr : Nat} {ns : List Nd} {rs : List Int} (h : GIs w an nn cn ar nr cr ns rs) (hb : Below w.heap.size w w') : GIs w' an nn cn ar nr cr ns rs := ⟨h.nodes.below hb, h.roots.below hb⟩
def GBox (t : TypeId) (w : World) (p : Nat) (an : Option Addr) (nn cn : Nat) (ar : Option Addr) (nr cr : Nat) : Prop := w.heap[p]? = some (.cells #[.slice an nn cn, .slice ar nr cr] t (0, 0))
theorem GBox.lt {t : TypeId} {w : World} {p : Nat} {an ar : Option Addr} {nn cn nr cr : Nat} (h : GBox t w p an nn cn ar nr cr) : p < w.heap.size := (Array.getElem?_eq_some_iff.1 h).1
theorem GBox.on {t : TypeId} {w w' : World} {p : Nat} {an ar : Option Addr} {nn cn nr cr : Nat} (h : GBox t w p an nn cn ar nr cr) (hb : Below w.heap.size w w') : GBox t w' p an nn cn ar nr cr := (hb.block p h.lt).trans h
theorem GBox.c {t : TypeId} {w : World} {p : Nat} {an ar : Option Addr} {nn cn nr cr : Nat} (h : GBox t w p an nn cn ar nr cr) : w.cell? ⟨p, 0, none⟩ = some (.slice an nn cn) /\ w.cell? ⟨p, 1, none⟩ = some (.slice ar nr cr) := ⟨za h 0, za h 1⟩
theorem GBox.new (t : TypeId) (w : World) (an ar : Option Addr) (nn cn nr cr : Nat) : GBox t (w.alloc (.cells #[.slice an nn cn, .slice ar nr cr] t)) w.heap.size an nn cn ar nr cr := zd _ _ _
def zeb (ns : List Nd) (k : Nat) : Bool := (ns.take k).all fun d => decide (d.text.size <= 2000) && decide (d.kids.length <= 100)
def fewB (ns : List Nd) (rs : List Int) (most : Nat) : Bool := decide (ns.length <= most) && decide (rs.length <= most) && zeb ns ns.length
theorem zor {ns : List Nd} {k : Nat} (h : k < ns.length) : zeb ns (k + 1) = (zeb ns k && (decide ((ns.getD k default).text.size <= 2000) && decide ((ns.getD k default).kids.length <= 100))) := by
 unfold zeb
 rw [List.take_succ_eq_append_getElem h, List.all_append, List.getD_eq_getElem?_getD, List.getElem?_eq_getElem h]; simp
theorem zec {ns : List Nd} {k j : Nat} (hk : k < j) (hj : j <= ns.length) (h : zeb ns (k + 1) = false) : zeb ns j = false := by
 unfold zeb at *
 rw [List.all_eq_false] at h ⊢
 obtain ⟨x, hx, h2⟩ := h
 refine ⟨x, ?_, h2⟩
 exact (List.take_prefix_take_left (l := ns) (by omega : k + 1 <= j)).subset hx
def letB (n : Int) : Bool := decide (0 <= n) && decide (n <= 1114111) && (decide (n < 55296) || decide (57343 < n))
theorem vl (n : Int) : letB n = Utf8.valid n := by
 unfold letB Utf8.valid
 rw [Bool.eq_iff_iff]
 simp only [Bool.and_eq_true, Bool.or_eq_true, decide_eq_true_eq]
 omega
theorem zai (n : Int) (w : World) : Calls Tryz.prog 102 #[.int .i64 n] w fun e w' => e = .returned (.bool (letB n)) /\ w' = w := by
 unfold letB
 by_cases h1 : 0 <= n <;> by_cases h2 : n <= 1114111 <;> by_cases h3 : n < 55296 <;> by_cases h4 : 57343 < n <;>
 ·go_enter Tryz.func102, Tryz.ntmps102
  go_wp2
  go_ret
  exact ⟨by simp [h1, h2, h3, h4], rfl⟩
def yt (s : ByteArray) (i : Nat) : Nat × Nat := if Utf8.decode s i = (65533, 1) then (0, 0) else Utf8.decode s i
theorem zrq : ∀ x : Fin 256, bits .and .u8 ((x.1 : Nat) : Int) 192 = ((x.1 / 64 * 64 : Nat) : Int) := by decide +kernel
theorem zzo : ∀ x : Fin 256, bits .and .u8 ((x.1 : Nat) : Int) 63 = ((x.1 % 64 : Nat) : Int) := by decide +kernel
theorem zec1 : ∀ x : Fin 256, bits .and .i64 ((x.1 : Nat) : Int) 31 = ((x.1 % 32 : Nat) : Int) := by decide +kernel
theorem zed1 : ∀ x : Fin 256, bits .and .i64 ((x.1 : Nat) : Int) 15 = ((x.1 % 16 : Nat) : Int) := by decide +kernel
theorem zee1 : ∀ x : Fin 256, bits .and .i64 ((x.1 : Nat) : Int) 7 = ((x.1 % 8 : Nat) : Int) := by decide +kernel
theorem zos (a b : Nat) (ha : a < 9223372036854775808) (hb : b < 9223372036854775808) : bits .or .i64 (a : Int) (b : Int) = ((a ||| b : Nat) : Int) := by
 have hx : a ||| b < 2 ^ 63 := Nat.or_lt_two_pow (by omega) (by omega)
 have h1 : (BitVec.ofInt 64 (a : Int)).toNat = a := by
  rw [BitVec.ofInt_natCast, BitVec.toNat_ofNat]; exact Nat.mod_eq_of_lt (by omega)
 have h2 : (BitVec.ofInt 64 (b : Int)).toNat = b := by
  rw [BitVec.ofInt_natCast, BitVec.toNat_ofNat]; exact Nat.mod_eq_of_lt (by omega)
 show IntKind.i64.wrap ((BitVec.ofInt 64 (a : Int) ||| BitVec.ofInt 64 (b : Int)).toNat : Int) = _
 rw [BitVec.toNat_or, h1, h2, IntKind.wrap_i64]
 omega
theorem zba (a b : Nat) (ha : a < 1048576) (hb : b < 64) : bits .or .i64 ((a : Int) * 64) (b : Int) = ((a * 64 + b : Nat) : Int) := by
 rw [show ((a : Int) * 64) = ((a * 64 : Nat) : Int) by omega, zos _ _ (by omega) (by omega), nat_join 6 _ _ (by omega) (by omega)]
def ze (s : ByteArray) (i : Nat) : Nat := (s.get! i).toNat
theorem qb {s : ByteArray} {i : Nat} (h : i < s.size) : (s[i]'h).toNat = ze s i := by
 unfold ze
 congr 1
 obtain ⟨d⟩ := s
 show d[i]'h = d[i]!
 rw [getElem!_pos d i h]
theorem qz (s : ByteArray) (i : Nat) : ze s i < 256 := UInt8.toNat_lt _
def cvs (s : ByteArray) (i c0 : Nat) : Nat -> Nat
 | 0 => c0
 | j + 1 => cvs s i c0 j * 64 + ze s (i + (j + 1)) % 64
theorem zbw (s : ByteArray) (i c0 : Nat) (h : c0 < 32) : ∀ j, cvs s i c0 j < 32 * 64 ^ j
 | 0 => by simpa [cvs] using h
 | j + 1 => by
  have := zbw s i c0 h j
  unfold cvs
  rw [Nat.pow_succ]; omega
def zot (s : ByteArray) (i j : Nat) : Prop := ∀ q, q < j -> i + (q + 1) < s.size /\ ze s (i + (q + 1)) / 64 = 2
theorem xv (s : ByteArray) (i : Nat) : Utf8.decode s i =
  (if ze s i < 128 then (ze s i, 1)
  else if ze s i / 32 == 6 && (decide (i + 1 < s.size) && ze s (i + 1) / 64 == 2) then
   (if ze s i % 32 * 64 + ze s (i + 1) % 64 >= 128 then (ze s i % 32 * 64 + ze s (i + 1) % 64, 2) else (65533, 1))
  else if ze s i / 16 == 14 && (decide (i + 1 < s.size) && ze s (i + 1) / 64 == 2) && (decide (i + 2 < s.size) && ze s (i + 2) / 64 == 2) then
   (if decide (ze s i % 16 * 4096 + ze s (i + 1) % 64 * 64 + ze s (i + 2) % 64 >= 2048) && Utf8.valid (ze s i % 16 * 4096 + ze s (i + 1) % 64 * 64 + ze s (i + 2) % 64 : Nat) then (ze s i % 16 * 4096 + ze s (i + 1) % 64 * 64 + ze s (i + 2) % 64, 3) else (65533, 1))
  else if ze s i / 8 == 30 && (decide (i + 1 < s.size) && ze s (i + 1) / 64 == 2) && (decide (i + 2 < s.size) && ze s (i + 2) / 64 == 2) && (decide (i + 3 < s.size) && ze s (i + 3) / 64 == 2) then
   (if decide (ze s i % 8 * 262144 + ze s (i + 1) % 64 * 4096 + ze s (i + 2) % 64 * 64 + ze s (i + 3) % 64 >= 65536) && Utf8.valid (ze s i % 8 * 262144 + ze s (i + 1) % 64 * 4096 + ze s (i + 2) % 64 * 64 + ze s (i + 3) % 64 : Nat) then (ze s i % 8 * 262144 + ze s (i + 1) % 64 * 4096 + ze s (i + 2) % 64 * 64 + ze s (i + 3) % 64, 4) else (65533, 1))
  else (65533, 1)) := by
 rfl
theorem zrr {s : ByteArray} {i : Nat} (h : ze s i < 128) : yt s i = (ze s i, 1) := by
 unfold yt; rw [xv, if_pos h, if_neg]; intro e; simp at e; omega
theorem zed {s : ByteArray} {i : Nat} (h : (128 <= ze s i /\ ze s i < 192) \/ 248 <= ze s i) : yt s i = (0, 0) := by
 unfold yt
 rw [if_pos]
 rw [xv, if_neg (by omega), if_neg, if_neg, if_neg] <;> simp <;> omega
theorem zrs {s : ByteArray} {i : Nat} (h1 : 192 <= ze s i) (h2 : ze s i < 224) : yt s i = if i + 1 < s.size /\ ze s (i + 1) / 64 = 2 /\ 128 <= cvs s i (ze s i % 32) 1 then (cvs s i (ze s i % 32) 1, 2) else (0, 0) := by
 unfold yt
 have e0 : ze s i / 32 = 6 := by omega
 have e1 : ¬ ze s i / 16 = 14 := by omega
 have e2 : ¬ ze s i / 8 = 30 := by omega
 have hlt : ¬ ze s i < 128 := by omega
 rw [xv]
 simp only [cvs, hlt, e0, e1, e2, beq_iff_eq, Bool.and_eq_true, decide_eq_true_eq, true_and, false_and, if_false]
 by_cases ha : i + 1 < s.size <;> by_cases hb : ze s (i + 1) / 64 = 2 <;> by_cases hc : 128 <= ze s i % 32 * 64 + ze s (i + 1) % 64 <;> simp [ha, hb, hc]
theorem zrt {s : ByteArray} {i : Nat} (h1 : 224 <= ze s i) (h2 : ze s i < 240) : yt s i = if (i + 1 < s.size /\ ze s (i + 1) / 64 = 2) /\ (i + 2 < s.size /\ ze s (i + 2) / 64 = 2) /\ 2048 <= cvs s i (ze s i % 16) 2 /\ letB (cvs s i (ze s i % 16) 2 : Nat) = true then (cvs s i (ze s i % 16) 2, 3) else (0, 0) := by
 unfold yt
 have e0 : ¬ ze s i / 32 = 6 := by omega
 have e1 : ze s i / 16 = 14 := by omega
 have e2 : ¬ ze s i / 8 = 30 := by omega
 have ec : cvs s i (ze s i % 16) 2 = ze s i % 16 * 4096 + ze s (i + 1) % 64 * 64 + ze s (i + 2) % 64 := by
  show (ze s i % 16 * 64 + ze s (i + 1) % 64) * 64 + ze s (i + 2) % 64 = _
  omega
 have hlt : ¬ ze s i < 128 := by omega
 rw [xv, ec, vl]
 simp only [hlt, e0, e1, e2, beq_iff_eq, Bool.and_eq_true, decide_eq_true_eq, true_and, false_and, if_false]
 generalize ze s i % 16 * 4096 + ze s (i + 1) % 64 * 64 + ze s (i + 2) % 64 = c
 by_cases ha : i + 1 < s.size <;> by_cases hb : ze s (i + 1) / 64 = 2 <;> by_cases ha2 : i + 2 < s.size <;> by_cases hb2 : ze s (i + 2) / 64 = 2 <;> by_cases hc : 2048 <= c <;> cases hv : Utf8.valid (c : Nat) <;> simp [ha, hb, ha2, hb2, hc, hv]
theorem zru {s : ByteArray} {i : Nat} (h1 : 240 <= ze s i) (h2 : ze s i < 248) : yt s i = if (i + 1 < s.size /\ ze s (i + 1) / 64 = 2) /\ (i + 2 < s.size /\ ze s (i + 2) / 64 = 2) /\ (i + 3 < s.size /\ ze s (i + 3) / 64 = 2) /\ 65536 <= cvs s i (ze s i % 8) 3 /\ letB (cvs s i (ze s i % 8) 3 : Nat) = true then (cvs s i (ze s i % 8) 3, 4) else (0, 0) := by
 unfold yt
 have e0 : ¬ ze s i / 32 = 6 := by omega
 have e1 : ¬ ze s i / 16 = 14 := by omega
 have e2 : ze s i / 8 = 30 := by omega
 have ec : cvs s i (ze s i % 8) 3 = ze s i % 8 * 262144 + ze s (i + 1) % 64 * 4096 + ze s (i + 2) % 64 * 64 + ze s (i + 3) % 64 := by
  show ((ze s i % 8 * 64 + ze s (i + 1) % 64) * 64 + ze s (i + 2) % 64) * 64 + ze s (i + 3) % 64 = _
  omega
 have hlt : ¬ ze s i < 128 := by omega
 rw [xv, ec, vl]
 simp only [hlt, e0, e1, e2, beq_iff_eq, Bool.and_eq_true, decide_eq_true_eq, true_and, false_and, if_false]
 generalize ze s i % 8 * 262144 + ze s (i + 1) % 64 * 4096 + ze s (i + 2) % 64 * 64 + ze s (i + 3) % 64 = c
 by_cases ha : i + 1 < s.size <;> by_cases hb : ze s (i + 1) / 64 = 2 <;> by_cases ha2 : i + 2 < s.size <;> by_cases hb2 : ze s (i + 2) / 64 = 2 <;> by_cases ha3 : i + 3 < s.size <;> by_cases hb3 : ze s (i + 3) / 64 = 2 <;> by_cases hc : 65536 <= c <;> cases hv : Utf8.valid (c : Nat) <;> simp [ha, hb, ha2, hb2, ha3, hb3, hc, hv]
def yl (s : ByteArray) (i : Nat) (w : World) (e : Ending) (w' : World) : Prop := e = .returned (.tuple #[.int .i64 ((yt s i).1 : Nat), .int .i64 ((yt s i).2 : Nat)]) /\ ∃ k, w' = w.drewN k
theorem yl.mk {s : ByteArray} {i : Nat} {w w' : World} {a b : Nat} {x y : Int} (h : yt s i = (a, b)) (hx : x = (a : Nat)) (hy : y = (b : Nat)) (hw : ∃ k, w' = w.drewN k) : yl s i w (.returned (.tuple #[.int .i64 x, .int .i64 y])) w' := by
 refine ⟨?_, hw⟩
 rw [h, hx, hy]
set_option maxRecDepth 1000000 in
set_option maxHeartbeats 2000000 in
theorem zef1 (s : ByteArray) (i : Nat) (w : World) (hi : i < s.size) (hs : s.size <= 1000000) (h1 : 192 <= ze s i) (h2 : ze s i < 224) : Calls Tryz.prog 127 #[.string s, .int .i64 i] w (yl s i w) := by
 have hb0 := qb hi
 have hblt := qz s i
 have hR := hid (@zrs s i h1 h2)
 obtain ⟨b, hb⟩ : ∃ b, b = ze s i := ⟨_, rfl⟩
 rw [<- hb] at hb0 h1 h2 hblt hR
 have hand := zec1 ⟨b, hblt⟩
 obtain ⟨c0, hc0⟩ : ∃ c0, c0 = b % 32 := ⟨_, rfl⟩
 simp only [] at hand
 rw [<- hc0] at hand hR
 have hc32 : c0 < 32 := by rw [hc0]; exact Nat.mod_lt _ (by decide)
 clear hb hc0
 have d0 : decide ((b : Int) < 128) = false := by simp; omega
 have d1 : decide ((192 : Int) <= b) = true := by simp; omega
 have d2 : decide ((b : Int) < 224) = true := by simp; omega
 go_enter Tryz.func127, Tryz.ntmps127
 go_wp2
 go_loopw [6, 9] (fun c k wr => ∃ j x : Nat, j <= 1 /\ k = .int .i64 ((j : Int) + 1) /\ c = .int .i64 x /\ Hid (x = cvs s i c0 j /\ zot s i j /\ ∃ k, wr = w.drewN k)) (fun _ k _ => (4 - intOf k).toNat)
 case atStart => exact ⟨0, c0, by omega, rfl, rfl, rfl, fun q hq => by omega, 0, rfl⟩
 case round =>
  obtain ⟨j, x, hj, rfl, rfl, hI⟩ := hrel
  by_cases hlt : j < 1
  ·have hxb : x < 1048576 := by
    rw [hI.out.1]
    have := zbw s i c0 (by omega) j
    have h64 : 64 ^ j <= 64 ^ 2 := Nat.pow_le_pow_right (by decide) (by omega)
    omega
   by_cases hin : i + (j + 1) < s.size
   ·have hbj := qb hin
    have hbjl := qz s (i + (j + 1))
    obtain ⟨y, hy⟩ : ∃ y, y = ze s (i + (j + 1)) := ⟨_, rfl⟩
    rw [<- hy] at hbj hbjl
    have ha := zrq ⟨y, hbjl⟩
    have ha2 := zzo ⟨y, hbjl⟩
    simp only [] at ha ha2
    obtain ⟨z, hz⟩ : ∃ z, z = y / 64 * 64 := ⟨_, rfl⟩
    obtain ⟨v, hv⟩ : ∃ v, v = y % 64 := ⟨_, rfl⟩
    rw [<- hz] at ha
    rw [<- hv] at ha2
    have hv64 : v < 64 := by omega
    have hor := zba x v hxb hv64
    have HY := hid hy
    by_cases hcont : z = 128
    ·have hc2 : Hid (y / 64 = 2) := by unfold Hid; omega
     have hfin : Hid (x * 64 + v = cvs s i c0 (j + 1) /\ zot s i (j + 1)) := by
      refine ⟨?_, ?_⟩
      ·show _ = cvs s i c0 j * 64 + ze s (i + (j + 1)) % 64
       rw [hI.out.1, hv, <- hy]
      ·intro q hq
       by_cases hqj : q < j
       ·exact hI.out.2.1 q hqj
       ·obtain rfl : q = j := by omega
        exact ⟨hin, by rw [<- hy]; exact hc2.out⟩
     have hxv : x * 64 + v < 9223372036854775807 := by omega
     have ez : ((z : Int) != 128) = false := by rw [bne_eq_false_iff_eq]; omega
     clear hz hv hy
     go_wp2
     refine ⟨⟨j + 1, x * 64 + v, by omega, by congr 1 <;> omega, by congr 1 <;> omega, hfin.out.1, hfin.out.2, hI.out.2.2⟩, by simp [intOf] <;> omega⟩
    ·have hne : Hid (¬ ze s (i + (j + 1)) / 64 = 2) := by rw [<- hy]; unfold Hid; omega
     have ez : ((z : Int) != 128) = true := by rw [bne_iff_ne]; omega
     have hbad : Hid (yt s i = (0, 0)) := by
      unfold Hid; rw [hR.out, if_neg]; rintro h
      have hq := hne.out
      obtain rfl : j = 0 := by omega
      simp at h hq; omega
     clear hz hv hy
     go_wp2
     go_ret2
     exact yl.mk hbad.out rfl rfl hI.out.2.2
   ·have hbad : Hid (yt s i = (0, 0)) := by
     unfold Hid; rw [hR.out, if_neg]; rintro h
     obtain rfl : j = 0 := by omega
     simp at h hin; omega
    go_wp2
    go_ret2
    exact yl.mk hbad.out rfl rfl hI.out.2.2
  ·obtain rfl : j = 1 := by omega
   have hxb : x < 16777216 := by
    rw [hI.out.1]
    have := zbw s i c0 (by omega) 1
    omega
   by_cases hle : x < 128
   ·have hbad : Hid (yt s i = (0, 0)) := by
     unfold Hid; rw [hR.out, if_neg]; rintro h
     have := hI.out.1
     rw [<- this] at h
     omega
    go_wp2
    go_ret2
    exact yl.mk hbad.out rfl rfl hI.out.2.2
   ·have hL := zai (x : Int)
    cases hlb : letB (x : Int)
    ·rw [hlb] at hL
     have hbad : Hid (yt s i = (0, 0)) := by
      unfold Hid; rw [hR.out, if_neg]; rintro h
      have := hI.out.1
      rw [<- this] at h
      exfalso
      have : x < 2048 := by have := zbw s i c0 (by omega) 1; rw [<- hI.out.1] at this; omega
      unfold letB at hlb; simp at hlb; omega
     go_wp2_with (go_at_call 102; refine (hL _).mono ?_; rintro e wz ⟨rfl, hwz⟩; rw [hwz])
     go_ret2
     exact yl.mk hbad.out rfl rfl hI.out.2.2
    ·rw [hlb] at hL
     have hgood : Hid (yt s i = (x, 2)) := by
      unfold Hid
      rw [hR.out, if_pos, <- hI.out.1]
      rw [<- hI.out.1]
      obtain ⟨g1, g2⟩ := hI.out.2.1 0 (by omega)
      exact ⟨g1, g2, by omega⟩
     have HL := hid hL
     clear hlb hL hR hand
     go_wp2_with (go_at_call 102; refine (HL.out _).mono ?_; rintro e wz ⟨rfl, hwz⟩; rw [hwz])
     go_ret2
     exact yl.mk hgood.out rfl rfl hI.out.2.2
set_option maxRecDepth 1000000 in
set_option maxHeartbeats 2000000 in
theorem zeg1 (s : ByteArray) (i : Nat) (w : World) (hi : i < s.size) (hs : s.size <= 1000000) (h1 : 224 <= ze s i) (h2 : ze s i < 240) : Calls Tryz.prog 127 #[.string s, .int .i64 i] w (yl s i w) := by
 have hb0 := qb hi
 have hblt := qz s i
 have hR := hid (@zrt s i h1 h2)
 obtain ⟨b, hb⟩ : ∃ b, b = ze s i := ⟨_, rfl⟩
 rw [<- hb] at hb0 h1 h2 hblt hR
 have hand := zed1 ⟨b, hblt⟩
 obtain ⟨c0, hc0⟩ : ∃ c0, c0 = b % 16 := ⟨_, rfl⟩
 simp only [] at hand
 rw [<- hc0] at hand hR
 have hc32 : c0 < 16 := by rw [hc0]; exact Nat.mod_lt _ (by decide)
 clear hb hc0
 have d0 : decide ((b : Int) < 128) = false := by simp; omega
 have d1 : decide ((192 : Int) <= b) = true := by simp; omega
 have d2 : decide ((b : Int) < 224) = false := by simp; omega
 have d3 : decide ((224 : Int) <= b) = true := by simp; omega
 have d4 : decide ((b : Int) < 240) = true := by simp; omega
 go_enter Tryz.func127, Tryz.ntmps127
 go_wp2
 go_loopw [6, 9] (fun c k wr => ∃ j x : Nat, j <= 2 /\ k = .int .i64 ((j : Int) + 1) /\ c = .int .i64 x /\ Hid (x = cvs s i c0 j /\ zot s i j /\ ∃ k, wr = w.drewN k)) (fun _ k _ => (4 - intOf k).toNat)
 case atStart => exact ⟨0, c0, by omega, rfl, rfl, rfl, fun q hq => by omega, 0, rfl⟩
 case round =>
  obtain ⟨j, x, hj, rfl, rfl, hI⟩ := hrel
  by_cases hlt : j < 2
  ·have hxb : x < 1048576 := by
    rw [hI.out.1]
    have := zbw s i c0 (by omega) j
    have h64 : 64 ^ j <= 64 ^ 2 := Nat.pow_le_pow_right (by decide) (by omega)
    omega
   by_cases hin : i + (j + 1) < s.size
   ·have hbj := qb hin
    have hbjl := qz s (i + (j + 1))
    obtain ⟨y, hy⟩ : ∃ y, y = ze s (i + (j + 1)) := ⟨_, rfl⟩
    rw [<- hy] at hbj hbjl
    have ha := zrq ⟨y, hbjl⟩
    have ha2 := zzo ⟨y, hbjl⟩
    simp only [] at ha ha2
    obtain ⟨z, hz⟩ : ∃ z, z = y / 64 * 64 := ⟨_, rfl⟩
    obtain ⟨v, hv⟩ : ∃ v, v = y % 64 := ⟨_, rfl⟩
    rw [<- hz] at ha
    rw [<- hv] at ha2
    have hv64 : v < 64 := by omega
    have hor := zba x v hxb hv64
    have HY := hid hy
    by_cases hcont : z = 128
    ·have hc2 : Hid (y / 64 = 2) := by unfold Hid; omega
     have hfin : Hid (x * 64 + v = cvs s i c0 (j + 1) /\ zot s i (j + 1)) := by
      refine ⟨?_, ?_⟩
      ·show _ = cvs s i c0 j * 64 + ze s (i + (j + 1)) % 64
       rw [hI.out.1, hv, <- hy]
      ·intro q hq
       by_cases hqj : q < j
       ·exact hI.out.2.1 q hqj
       ·obtain rfl : q = j := by omega
        exact ⟨hin, by rw [<- hy]; exact hc2.out⟩
     have hxv : x * 64 + v < 9223372036854775807 := by omega
     have ez : ((z : Int) != 128) = false := by rw [bne_eq_false_iff_eq]; omega
     clear hz hv hy
     go_wp2
     refine ⟨⟨j + 1, x * 64 + v, by omega, by congr 1 <;> omega, by congr 1 <;> omega, hfin.out.1, hfin.out.2, hI.out.2.2⟩, by simp [intOf] <;> omega⟩
    ·have hne : Hid (¬ ze s (i + (j + 1)) / 64 = 2) := by rw [<- hy]; unfold Hid; omega
     have ez : ((z : Int) != 128) = true := by rw [bne_iff_ne]; omega
     have hbad : Hid (yt s i = (0, 0)) := by
      unfold Hid; rw [hR.out, if_neg]; rintro h
      have hq := hne.out
      have : j = 0 \/ j = 1 := by omega
      rcases this with rfl | rfl <;> simp at h hq <;> omega
     clear hz hv hy
     go_wp2
     go_ret2
     exact yl.mk hbad.out rfl rfl hI.out.2.2
   ·have hbad : Hid (yt s i = (0, 0)) := by
     unfold Hid; rw [hR.out, if_neg]; rintro h
     have : j = 0 \/ j = 1 := by omega
     rcases this with rfl | rfl <;> simp at h hin <;> omega
    go_wp2
    go_ret2
    exact yl.mk hbad.out rfl rfl hI.out.2.2
  ·obtain rfl : j = 2 := by omega
   have hxb : x < 16777216 := by
    rw [hI.out.1]
    have := zbw s i c0 (by omega) 2
    omega
   by_cases hle : x < 2048
   ·have hbad : Hid (yt s i = (0, 0)) := by
     unfold Hid; rw [hR.out, if_neg]; rintro h
     have := hI.out.1
     rw [<- this] at h
     omega
    go_wp2
    go_ret2
    exact yl.mk hbad.out rfl rfl hI.out.2.2
   ·have hL := zai (x : Int)
    cases hlb : letB (x : Int)
    ·rw [hlb] at hL
     have hbad : Hid (yt s i = (0, 0)) := by
      unfold Hid; rw [hR.out, if_neg]; rintro h
      have := hI.out.1
      rw [<- this] at h
      simp [hlb] at h
     go_wp2_with (go_at_call 102; refine (hL _).mono ?_; rintro e wz ⟨rfl, hwz⟩; rw [hwz])
     go_ret2
     exact yl.mk hbad.out rfl rfl hI.out.2.2
    ·rw [hlb] at hL
     have hgood : Hid (yt s i = (x, 3)) := by
      unfold Hid
      rw [hR.out, if_pos, <- hI.out.1]
      rw [<- hI.out.1]
      obtain ⟨g1, k1⟩ := hI.out.2.1 0 (by omega)
      obtain ⟨g2, k2⟩ := hI.out.2.1 1 (by omega)
      exact ⟨⟨g1, k1⟩, ⟨g2, k2⟩, by omega, hlb⟩
     have HL := hid hL
     clear hlb hL hR hand
     go_wp2_with (go_at_call 102; refine (HL.out _).mono ?_; rintro e wz ⟨rfl, hwz⟩; rw [hwz])
     go_ret2
     exact yl.mk hgood.out rfl rfl hI.out.2.2
set_option maxRecDepth 1000000 in
set_option maxHeartbeats 2000000 in
theorem zeh1 (s : ByteArray) (i : Nat) (w : World) (hi : i < s.size) (hs : s.size <= 1000000) (h1 : 240 <= ze s i) (h2 : ze s i < 248) : Calls Tryz.prog 127 #[.string s, .int .i64 i] w (yl s i w) := by
 have hb0 := qb hi
 have hblt := qz s i
 have hR := hid (@zru s i h1 h2)
 obtain ⟨b, hb⟩ : ∃ b, b = ze s i := ⟨_, rfl⟩
 rw [<- hb] at hb0 h1 h2 hblt hR
 have hand := zee1 ⟨b, hblt⟩
 obtain ⟨c0, hc0⟩ : ∃ c0, c0 = b % 8 := ⟨_, rfl⟩
 simp only [] at hand
 rw [<- hc0] at hand hR
 have hc32 : c0 < 8 := by rw [hc0]; exact Nat.mod_lt _ (by decide)
 clear hb hc0
 have d0 : decide ((b : Int) < 128) = false := by simp; omega
 have d1 : decide ((192 : Int) <= b) = true := by simp; omega
 have d2 : decide ((b : Int) < 224) = false := by simp; omega
 have d3 : decide ((224 : Int) <= b) = true := by simp; omega
 have d4 : decide ((b : Int) < 240) = false := by simp; omega
 have d5 : decide ((240 : Int) <= b) = true := by simp; omega
 have d6 : decide ((b : Int) < 248) = true := by simp; omega
 go_enter Tryz.func127, Tryz.ntmps127
 go_wp2
 go_loopw [6, 9] (fun c k wr => ∃ j x : Nat, j <= 3 /\ k = .int .i64 ((j : Int) + 1) /\ c = .int .i64 x /\ Hid (x = cvs s i c0 j /\ zot s i j /\ ∃ k, wr = w.drewN k)) (fun _ k _ => (4 - intOf k).toNat)
 case atStart => exact ⟨0, c0, by omega, rfl, rfl, rfl, fun q hq => by omega, 0, rfl⟩
 case round =>
  obtain ⟨j, x, hj, rfl, rfl, hI⟩ := hrel
  by_cases hlt : j < 3
  ·have hxb : x < 1048576 := by
    rw [hI.out.1]
    have := zbw s i c0 (by omega) j
    have h64 : 64 ^ j <= 64 ^ 2 := Nat.pow_le_pow_right (by decide) (by omega)
    omega
   by_cases hin : i + (j + 1) < s.size
   ·have hbj := qb hin
    have hbjl := qz s (i + (j + 1))
    obtain ⟨y, hy⟩ : ∃ y, y = ze s (i + (j + 1)) := ⟨_, rfl⟩
    rw [<- hy] at hbj hbjl
    have ha := zrq ⟨y, hbjl⟩
    have ha2 := zzo ⟨y, hbjl⟩
    simp only [] at ha ha2
    obtain ⟨z, hz⟩ : ∃ z, z = y / 64 * 64 := ⟨_, rfl⟩
    obtain ⟨v, hv⟩ : ∃ v, v = y % 64 := ⟨_, rfl⟩
    rw [<- hz] at ha
    rw [<- hv] at ha2
    have hv64 : v < 64 := by omega
    have hor := zba x v hxb hv64
    have HY := hid hy
    by_cases hcont : z = 128
    ·have hc2 : Hid (y / 64 = 2) := by unfold Hid; omega
     have hfin : Hid (x * 64 + v = cvs s i c0 (j + 1) /\ zot s i (j + 1)) := by
      refine ⟨?_, ?_⟩
      ·show _ = cvs s i c0 j * 64 + ze s (i + (j + 1)) % 64
       rw [hI.out.1, hv, <- hy]
      ·intro q hq
       by_cases hqj : q < j
       ·exact hI.out.2.1 q hqj
       ·obtain rfl : q = j := by omega
        exact ⟨hin, by rw [<- hy]; exact hc2.out⟩
     have hxv : x * 64 + v < 9223372036854775807 := by omega
     have ez : ((z : Int) != 128) = false := by rw [bne_eq_false_iff_eq]; omega
     clear hz hv hy
     go_wp2
     refine ⟨⟨j + 1, x * 64 + v, by omega, by congr 1 <;> omega, by congr 1 <;> omega, hfin.out.1, hfin.out.2, hI.out.2.2⟩, by simp [intOf] <;> omega⟩
    ·have hne : Hid (¬ ze s (i + (j + 1)) / 64 = 2) := by rw [<- hy]; unfold Hid; omega
     have ez : ((z : Int) != 128) = true := by rw [bne_iff_ne]; omega
     have hbad : Hid (yt s i = (0, 0)) := by
      unfold Hid; rw [hR.out, if_neg]; rintro h
      have hq := hne.out
      have : j = 0 \/ j = 1 \/ j = 2 := by omega
      rcases this with rfl | rfl | rfl <;> simp at h hq <;> omega
     clear hz hv hy
     go_wp2
     go_ret2
     exact yl.mk hbad.out rfl rfl hI.out.2.2
   ·have hbad : Hid (yt s i = (0, 0)) := by
     unfold Hid; rw [hR.out, if_neg]; rintro h
     have : j = 0 \/ j = 1 \/ j = 2 := by omega
     rcases this with rfl | rfl | rfl <;> simp at h hin <;> omega
    go_wp2
    go_ret2
    exact yl.mk hbad.out rfl rfl hI.out.2.2
  ·obtain rfl : j = 3 := by omega
   have hxb : x < 16777216 := by
    rw [hI.out.1]
    have := zbw s i c0 (by omega) 3
    omega
   by_cases hle : x < 65536
   ·have hbad : Hid (yt s i = (0, 0)) := by
     unfold Hid; rw [hR.out, if_neg]; rintro h
     have := hI.out.1
     rw [<- this] at h
     omega
    go_wp2
    go_ret2
    exact yl.mk hbad.out rfl rfl hI.out.2.2
   ·have hL := zai (x : Int)
    cases hlb : letB (x : Int)
    ·rw [hlb] at hL
     have hbad : Hid (yt s i = (0, 0)) := by
      unfold Hid; rw [hR.out, if_neg]; rintro h
      have := hI.out.1
      rw [<- this] at h
      simp [hlb] at h
     go_wp2_with (go_at_call 102; refine (hL _).mono ?_; rintro e wz ⟨rfl, hwz⟩; rw [hwz])
     go_ret2
     exact yl.mk hbad.out rfl rfl hI.out.2.2
    ·rw [hlb] at hL
     have hgood : Hid (yt s i = (x, 4)) := by
      unfold Hid
      rw [hR.out, if_pos, <- hI.out.1]
      rw [<- hI.out.1]
      obtain ⟨g1, k1⟩ := hI.out.2.1 0 (by omega)
      obtain ⟨g2, k2⟩ := hI.out.2.1 1 (by omega)
      obtain ⟨g3, k3⟩ := hI.out.2.1 2 (by omega)
      exact ⟨⟨g1, k1⟩, ⟨g2, k2⟩, ⟨g3, k3⟩, by omega, hlb⟩
     have HL := hid hL
     clear hlb hL hR hand
     go_wp2_with (go_at_call 102; refine (HL.out _).mono ?_; rintro e wz ⟨rfl, hwz⟩; rw [hwz])
     go_ret2
     exact yl.mk hgood.out rfl rfl hI.out.2.2
set_option maxRecDepth 1000000 in
theorem znb (s : ByteArray) (i : Nat) (w : World) (hi : i < s.size) (hs : s.size <= 1000000) : Calls Tryz.prog 127 #[.string s, .int .i64 i] w (yl s i w) := by
 by_cases h1 : 192 <= ze s i /\ ze s i < 224
 ·exact zef1 s i w hi hs h1.1 h1.2
 by_cases h2 : 224 <= ze s i /\ ze s i < 240
 ·exact zeg1 s i w hi hs h2.1 h2.2
 by_cases h3 : 240 <= ze s i /\ ze s i < 248
 ·exact zeh1 s i w hi hs h3.1 h3.2
 have hb0 := qb hi
 have hblt := qz s i
 by_cases h4 : ze s i < 128
 ·have hR := hid (zrr h4)
  generalize ze s i = b at *
  go_enter Tryz.func127, Tryz.ntmps127
  go_wp2
  go_ret2
  exact yl.mk hR.out rfl rfl ⟨0, rfl⟩
 ·have hR := hid (zed (s := s) (i := i) (by omega))
  generalize ze s i = b at *
  have d0 : decide ((b : Int) < 128) = false := by simp; omega
  by_cases h5 : b < 192
  ·have d1 : decide ((192 : Int) <= b) = false := by simp; omega
   have d2 : decide ((224 : Int) <= b) = false := by simp; omega
   have d3 : decide ((240 : Int) <= b) = false := by simp; omega
   go_enter Tryz.func127, Tryz.ntmps127
   go_wp2
   go_ret2
   exact yl.mk hR.out rfl rfl ⟨0, rfl⟩
  ·have d1 : decide ((b : Int) < 224) = false := by simp; omega
   have d2 : decide ((b : Int) < 240) = false := by simp; omega
   have d3 : decide ((b : Int) < 248) = false := by simp; omega
   go_enter Tryz.func127, Tryz.ntmps127
   go_wp2
   go_ret2
   exact yl.mk hR.out rfl rfl ⟨0, rfl⟩
end Go.Proofs.YtadfihnffboelaaGreatDoor
