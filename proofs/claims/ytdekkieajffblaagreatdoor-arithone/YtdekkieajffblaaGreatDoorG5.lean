import Derived.Test.YtdekkieajffblaaGreatDoorW15
import Derived.Test.YtdekkieajffblaaGreatDoorX0
import Derived.Test.YtdekkieajffblaaGreatDoorW13
import Derived.Test.YtdekkieajffblaaGreatDoorW3
import Derived.Laws.Bits128
set_option linter.unusedVariables false
set_option linter.unusedSimpArgs false
namespace Go.Proofs.YtdekkieajffblaaGreatDoor
open Go.RowKit
theorem zero_is (w : World) : IsInt w (.agg #[.bool false, .slice none 0 0]) 0 := ⟨false, [], ⟨none, 0, 0, rfl, Row.nil _ _ _ _⟩, rfl, rfl⟩
theorem map_toNat_inj : ∀ {a b : List UInt8}, a.map UInt8.toNat = b.map UInt8.toNat -> a = b
 | [], [], _ => rfl
 | [], _ :: _, h => by simp at h
 | _ :: _, [], h => by simp at h
 | x :: a, y :: b, h => by
  simp only [List.map_cons, List.cons.injEq] at h
  rw [UInt8.toNat_inj.1 h.1, map_toNat_inj h.2]
theorem six_on {W wx wy : World} {p q r : Nat} {a0 a1 b0 b1 c0 c1 : Value}
  (h : wx.cell? ⟨p, 0, none⟩ = some a0 /\ wx.cell? ⟨p, 1, none⟩ = some a1 /\ wx.cell? ⟨q, 0, none⟩ = some b0 /\ wx.cell? ⟨q, 1, none⟩ = some b1 /\ wx.cell? ⟨r, 0, none⟩ = some c0 /\ wx.cell? ⟨r, 1, none⟩ = some c1 /\ Below W.heap.size W wx) (hb : Below wx.heap.size wx wy) :
  wy.cell? ⟨p, 0, none⟩ = some a0 /\ wy.cell? ⟨p, 1, none⟩ = some a1 /\ wy.cell? ⟨q, 0, none⟩ = some b0 /\ wy.cell? ⟨q, 1, none⟩ = some b1 /\ wy.cell? ⟨r, 0, none⟩ = some c0 /\ wy.cell? ⟨r, 1, none⟩ = some c1 /\ Below W.heap.size W wy := by
 obtain ⟨h1, h2, h3, h4, h5, h6, h7⟩ := h
 exact ⟨(hb.cell (p := ⟨p, 0, none⟩) (cell_lt h1)).trans h1, (hb.cell (p := ⟨p, 1, none⟩) (cell_lt h1)).trans h2, (hb.cell (p := ⟨q, 0, none⟩) (cell_lt h3)).trans h3, (hb.cell (p := ⟨q, 1, none⟩) (cell_lt h3)).trans h4, (hb.cell (p := ⟨r, 0, none⟩) (cell_lt h5)).trans h5, (hb.cell (p := ⟨r, 1, none⟩) (cell_lt h5)).trans h6, Bt h7 hb⟩
theorem six_bel {W wx : World} {p q r : Nat} {a0 a1 b0 b1 c0 c1 : Value}
  (h : wx.cell? ⟨p, 0, none⟩ = some a0 /\ wx.cell? ⟨p, 1, none⟩ = some a1 /\ wx.cell? ⟨q, 0, none⟩ = some b0 /\ wx.cell? ⟨q, 1, none⟩ = some b1 /\ wx.cell? ⟨r, 0, none⟩ = some c0 /\ wx.cell? ⟨r, 1, none⟩ = some c1 /\ Below W.heap.size W wx) : Below W.heap.size W wx := h.2.2.2.2.2.2
theorem Tr.tail {a : Nat} {t : List Nat} (h : Tr (a :: t)) : Tr t := by
 cases t with
 | nil => exact .inl rfl
 | cons c t =>
  rcases h with h | h
  ·cases h
  ·refine .inr ?_
   simpa using h
theorem digits_unique {B : Nat} (hB : 1 < B) : ∀ {D D' : List Nat}, Dg B D -> Dg B D' -> Tr D -> Tr D' -> val B D = val B D' -> D = D'
 | [], [], _, _, _, _, _ => rfl
 | [], b :: t', _, _, _, h4, h => by
  have := h4.ne_zero (B := B) (by omega) (by simp)
  exact absurd h.symm this
 | a :: t, [], _, _, h3, _, h => by
  have := h3.ne_zero (B := B) (by omega) (by simp)
  exact absurd h this
 | a :: t, b :: t', h1, h2, h3, h4, h => by
  have ha : a < B := h1 a (by simp)
  have hb : b < B := h2 b (by simp)
  rw [val_cons, val_cons] at h
  have e1 : a = b := by
   have := congrArg (· % B) h
   simp only [Nat.add_mul_mod_self_left] at this
   rwa [Nat.mod_eq_of_lt ha, Nat.mod_eq_of_lt hb] at this
  subst e1
  have e2 : val B t = val B t' := Nat.eq_of_mul_eq_mul_left (show 0 < B by omega) (by omega)
  rw [digits_unique hB (fun x hx => h1 x (by simp [hx])) (fun x hx => h2 x (by simp [hx])) h3.tail h4.tail e2]
theorem bs_ext {s t : ByteArray} (h : bs s = bs t) : s = t := by
 cases s with | mk a => cases t with | mk b =>
 have : a.toList = b.toList := map_toNat_inj h
 rw [Array.toList_inj.1 this]
def Printed (neg : Bool) (v : Nat) (radix : Int) (s : ByteArray) (en : Int) : Prop :=
 (¬ (2 <= radix /\ radix <= 36) /\ bs s = [] /\ en = 1) \/
 ((2 <= radix /\ radix <= 36) /\ en = 0 /\ ∃ D, Dg radix.toNat D /\ Tr D /\ val radix.toNat D = v /\ bs s = (if D = [] then [48] else (if neg then [45] else []) ++ (D.map chr).reverse))
def PrPost (w : World) (neg : Bool) (v : Nat) (radix : Int) (e : Ending) (w' : World) : Prop := ∃ s en, e = .returned (.tuple #[.string s, .int .i64 en]) /\ Printed neg v radix s en /\ Below w.heap.size w w'
set_option maxHeartbeats 2000000 in
theorem print_all (neg : Bool) (ao : Option Addr) (n cap : Nat) (l : List Nat) (radix : Int) (w : World) (R : Row .u32 B32 w ao n cap l) (g1 : goodB neg l = true) :
  Calls Tryz.prog 129 #[.agg #[.bool neg, .slice ao n cap], .int .i64 radix] w (PrPost w neg (val B32 l) radix) := by
 by_cases hr : 2 <= radix /\ radix <= 36
 ·obtain ⟨rx, rfl⟩ := Int.eq_ofNat_of_zero_le (by omega : 0 <= radix)
  by_cases h0 : n = 0
  ·subst h0
   have HC : Hid (∀ wx, Calls Tryz.prog 141 #[.int .i64 rx] wx fun e w' => e = .returned (.bool true) /\ w' = wx) := fun wx => (isRadix_any rx wx).mono fun e w' ⟨h1, h2⟩ => ⟨by rw [h1]; simp; omega, h2⟩
   have hl : l = [] := List.length_eq_zero_iff.1 R.len
   subst hl
   have HR := hid R
   have G1 := hid g1
   have HRX := hid hr
   clear R g1 hr
   go_enter Tryz.func129, Tryz.ntmps129
   go_wp2_with fail
   refine (HC.out _).mono ?_
   rintro e wx ⟨rfl, hwx⟩
   rw [hwx]
   clear hwx
   go_wp2_with fail
   refine (good_any neg ao 0 cap [] _ (HR.out.below (Ba _ _))).mono ?_
   rintro e w1 ⟨rfl, hb1⟩
   rw [G1.out]
   have X1 := hid ((Box.new 24 w neg ao 0 cap).on hb1)
   have HB1 := hid (Bt (Ba w (.cells #[.bool neg, .slice ao 0 cap] 24)) hb1)
   obtain ⟨c0, c1⟩ := X1.out.c
   clear hb1
   go_wp2
   go_ret2
   exact ⟨_, _, rfl, .inr ⟨HRX.out, rfl, [], Dg.nil _, Tr.nil, rfl, by rw [if_pos rfl]; rfl⟩, HB1.out⟩
  ·refine (print_any neg ao n cap l rx w R g1 (by omega) (by omega) h0).mono fun e w' ⟨s, D, h1, h2, h3, h4, h5, h6⟩ => ⟨s, 0, h1, .inr ⟨hr, rfl, D, h2, h3, h4, ?_⟩, h6⟩
   have hD : D ≠ [] := by
    intro e
    subst e
    have := (goodB_tr g1).ne_zero (B := B32) (by decide) (fun e => h0 (by rw [<- R.len, e]; rfl))
    exact this h4.symm
   rw [h5, if_neg hD]
 ·have HC : Hid (∀ wx, Calls Tryz.prog 141 #[.int .i64 radix] wx fun e w' => e = .returned (.bool false) /\ w' = wx) := fun wx => (isRadix_any radix wx).mono fun e w' ⟨h1, h2⟩ => ⟨by rw [h1]; simp; omega, h2⟩
  have HR := hid hr
  clear hr R g1
  go_enter Tryz.func129, Tryz.ntmps129
  go_wp2_with (go_at_call 141; refine (HC.out _).mono ?_; rintro e wx ⟨rfl, hwx⟩; rw [hwx]; clear hwx)
  go_ret2
  exact ⟨_, _, rfl, .inl ⟨HR.out, rfl, rfl⟩, Ba _ _⟩
structure Nd where
 kind : Int
 num : Int
 text : ByteArray
 kids : List Int
instance : Inhabited Nd := ⟨⟨0, 0, ByteArray.empty, []⟩⟩
def I64 (z : Int) : Prop := -9223372036854775808 <= z /\ z <= 9223372036854775807
structure IRow (w : World) (ao : Option Addr) (n cap : Nat) (l : List Int) : Prop where
 len : l.length = n
 fits : n <= cap
 most : cap <= maxLen
 nil_ : ao = none -> cap = 0
 bd : ∀ z ∈ l, I64 z
 rd : l = [] \/ ∃ b o, ao = some ⟨b, o, none⟩ /\ b < w.heap.size /\ ∀ i, i < l.length -> w.cell? ⟨b, o + i, none⟩ = some (.int .i64 (l.getD i 0))
theorem IRow.some {w : World} {ao : Option Addr} {n cap : Nat} {l : List Int} (h : IRow w ao n cap l) (hl : 0 < n) :
  ∃ b o, ao = some ⟨b, o, none⟩ /\ b < w.heap.size /\ ∀ i, i < n -> w.cell? ⟨b, o + i, none⟩ = some (.int .i64 (l.getD i 0)) := by
 rcases h.rd with e | h2
 ·have := h.len; simp [e] at this; omega
 ·rw [h.len] at h2; exact h2
theorem IRow.below {w w' : World} {ao : Option Addr} {n cap : Nat} {l : List Int} (h : IRow w ao n cap l) (hb : Below w.heap.size w w') : IRow w' ao n cap l := by
 refine ⟨h.len, h.fits, h.most, h.nil_, h.bd, ?_⟩
 rcases h.rd with e | ⟨b, o, e, hl, hc⟩
 ·exact .inl e
 ·exact .inr ⟨b, o, e, Nat.lt_of_lt_of_le hl hb.size, fun i hi => (hb.cell (p := ⟨b, o + i, none⟩) hl).trans (hc i hi)⟩
theorem IRow.nil (w : World) (ao : Option Addr) : IRow w ao 0 0 [] := ⟨rfl, Nat.le_refl _, Nat.zero_le _, fun _ => rfl, fun _ h => (by cases h), .inl rfl⟩
theorem IRow.get {w : World} {ao : Option Addr} {n cap : Nat} {l : List Int} (h : IRow w ao n cap l) {i : Nat} (hi : i < n) : I64 (l.getD i 0) := by
 have hi' : i < l.length := by rw [h.len]; exact hi
 rw [List.getD_eq_getElem?_getD, List.getElem?_eq_getElem hi']
 exact h.bd _ (List.getElem_mem hi')
def NdAt (w : World) (b o : Nat) (d : Nd) : Prop :=
 w.cell? ⟨b, o, none⟩ = some (.int .i64 d.kind) /\ w.cell? ⟨b, o + 1, none⟩ = some (.int .i64 d.num) /\ w.cell? ⟨b, o + 2, none⟩ = some (.string d.text) /\
  ∃ ao n cap, w.cell? ⟨b, o + 3, none⟩ = some (.slice ao n cap) /\ IRow w ao n cap d.kids
theorem NdAt.below {w w' : World} {b o : Nat} {d : Nd} (h : NdAt w b o d) (hl : b < w.heap.size) (hb : Below w.heap.size w w') : NdAt w' b o d := by
 obtain ⟨h1, h2, h3, ao, n, cap, h4, h5⟩ := h
 exact ⟨(hb.cell (p := ⟨b, o, none⟩) hl).trans h1, (hb.cell (p := ⟨b, o + 1, none⟩) hl).trans h2, (hb.cell (p := ⟨b, o + 2, none⟩) hl).trans h3, ao, n, cap, (hb.cell (p := ⟨b, o + 3, none⟩) hl).trans h4, h5.below hb⟩
def NdOk (d : Nd) : Prop := I64 d.kind /\ I64 d.num /\ d.text.size <= maxLen
structure NRow (w : World) (ao : Option Addr) (n cap : Nat) (l : List Nd) : Prop where
 len : l.length = n
 fits : n <= cap
 most : cap <= maxLen
 nil_ : ao = none -> cap = 0
 ok : ∀ d ∈ l, NdOk d
 rd : l = [] \/ ∃ b o, ao = some ⟨b, o, none⟩ /\ b < w.heap.size /\ ∀ i, i < l.length -> NdAt w b (o + i * 4) (l.getD i default)
theorem NRow.some {w : World} {ao : Option Addr} {n cap : Nat} {l : List Nd} (h : NRow w ao n cap l) (hl : 0 < n) :
  ∃ b o, ao = some ⟨b, o, none⟩ /\ b < w.heap.size /\ ∀ i, i < n -> NdAt w b (o + i * 4) (l.getD i default) := by
 rcases h.rd with e | h2
 ·have := h.len; simp [e] at this; omega
 ·rw [h.len] at h2; exact h2
theorem NRow.below {w w' : World} {ao : Option Addr} {n cap : Nat} {l : List Nd} (h : NRow w ao n cap l) (hb : Below w.heap.size w w') : NRow w' ao n cap l := by
 refine ⟨h.len, h.fits, h.most, h.nil_, h.ok, ?_⟩
 rcases h.rd with e | ⟨b, o, e, hl, hc⟩
 ·exact .inl e
 ·exact .inr ⟨b, o, e, Nat.lt_of_lt_of_le hl hb.size, fun i hi => (hc i hi).below hl hb⟩
theorem NRow.get {w : World} {ao : Option Addr} {n cap : Nat} {l : List Nd} (h : NRow w ao n cap l) {i : Nat} (hi : i < n) : NdOk (l.getD i default) := by
 have hi' : i < l.length := by rw [h.len]; exact hi
 rw [List.getD_eq_getElem?_getD, List.getElem?_eq_getElem hi']
 exact h.ok _ (List.getElem_mem hi')
theorem NRow.nil (w : World) (ao : Option Addr) : NRow w ao 0 0 [] := ⟨rfl, Nat.le_refl _, Nat.zero_le _, fun _ => rfl, fun _ h => (by cases h), .inl rfl⟩
def GVal (an : Option Addr) (nn cn : Nat) (ar : Option Addr) (nr cr : Nat) : Value := .agg #[.slice an nn cn, .slice ar nr cr]
structure GIs (w : World) (an : Option Addr) (nn cn : Nat) (ar : Option Addr) (nr cr : Nat) (ns : List Nd) (rs : List Int) : Prop where
 nodes : NRow w an nn cn ns
 roots : IRow w ar nr cr rs
theorem GIs.below {w w' : World} {an ar : Option Addr} {nn cn nr cr : Nat} {ns : List Nd} {rs : List Int} (h : GIs w an nn cn ar nr cr ns rs) (hb : Below w.heap.size w w') : GIs w' an nn cn ar nr cr ns rs := ⟨h.nodes.below hb, h.roots.below hb⟩
def GBox (t : TypeId) (w : World) (p : Nat) (an : Option Addr) (nn cn : Nat) (ar : Option Addr) (nr cr : Nat) : Prop := w.heap[p]? = some (.cells #[.slice an nn cn, .slice ar nr cr] t (0, 0))
theorem GBox.lt {t : TypeId} {w : World} {p : Nat} {an ar : Option Addr} {nn cn nr cr : Nat} (h : GBox t w p an nn cn ar nr cr) : p < w.heap.size := (Array.getElem?_eq_some_iff.1 h).1
theorem GBox.on {t : TypeId} {w w' : World} {p : Nat} {an ar : Option Addr} {nn cn nr cr : Nat} (h : GBox t w p an nn cn ar nr cr) (hb : Below w.heap.size w w') : GBox t w' p an nn cn ar nr cr := (hb.block p h.lt).trans h
theorem GBox.c {t : TypeId} {w : World} {p : Nat} {an ar : Option Addr} {nn cn nr cr : Nat} (h : GBox t w p an nn cn ar nr cr) : w.cell? ⟨p, 0, none⟩ = some (.slice an nn cn) /\ w.cell? ⟨p, 1, none⟩ = some (.slice ar nr cr) := ⟨blk_cell h 0, blk_cell h 1⟩
theorem GBox.new (t : TypeId) (w : World) (an ar : Option Addr) (nn cn nr cr : Nat) : GBox t (w.alloc (.cells #[.slice an nn cn, .slice ar nr cr] t)) w.heap.size an nn cn ar nr cr := blk_new _ _ _
theorem store2 {w : World} {g : Nat} {a b v1 v2 : Value} {t : TypeId} (h : w.heap[g]? = some (.cells #[a, b] t (0, 0))) : ((w.setCell ⟨g, 0, none⟩ v1).setCell ⟨g, 1, none⟩ v2).heap[g]? = some (.cells #[v1, v2] t (0, 0)) := by
 have h1 := blk_set (i := 0) h v1
 have h2 := blk_set (i := 1) h1 v2
 rw [h2]; rfl
theorem store2_far {w : World} {g b : Nat} {v1 v2 : Value} (h : b ≠ g) : ((w.setCell ⟨g, 0, none⟩ v1).setCell ⟨g, 1, none⟩ v2).heap[b]? = w.heap[b]? :=
 (Below.heap_setCell _ _ _ _ h).trans (Below.heap_setCell _ _ _ _ h)
theorem store2_below {n : Nat} {w0 w : World} {g : Nat} {v1 v2 : Value} (h : Below n w0 w) (hg : n <= g) : Below n w0 ((w.setCell ⟨g, 0, none⟩ v1).setCell ⟨g, 1, none⟩ v2) :=
 (h.setCell (p := ⟨g, 0, none⟩) hg _).setCell (p := ⟨g, 1, none⟩) hg _
def fixB (z : Int) : Bool := decide (-1152921504606846976 <= z) && decide (z < 1152921504606846976)
def nK (x : Int) : Int := (ofR x).1
def nN (x : Int) : Int := (ofR x).2.1
def limbB (x : Int) : Bool := decide (nK x = 1) && (decide (0 <= nN x) && decide (nN x < 4294967296))
def numNeg (l : List Int) : Bool := decide (nN (l.getD 0 0) = 1)
def numMag (l : List Int) : List Nat := (l.drop 1).map (fun y => (nN y).toNat)
def bigB (l : List Int) : Bool := decide (0 < l.length) && (l.all limbB && (decide (nN (l.getD 0 0) <= 1) && (goodB (numNeg l) (numMag l) && !fixB (sgn (numNeg l) (val B32 (numMag l))))))
def byB (x : Int) : Bool := decide (nK x = 1) && (decide (0 <= nN x) && decide (nN x <= 255))
def lrB (x : Int) : Bool := decide (nK x = 4)
def byT (l : List Int) : List Nat := l.map (fun x => (nN x).toNat)
def lrT (l : List Int) : List Nat := l.flatMap (fun x => bs (Utf8.encode (nN x)))
def voidN : Nd := ⟨11, 0, ByteArray.empty, []⟩
theorem digitsB_of {rx : Nat} {l : List Nat} (h0 : 0 < l.length) (h : ∀ j, j < l.length -> dgt (l.getD j 0) < rx) : digitsB (rx : Int) l = true := by
 unfold digitsB
 rw [Bool.and_eq_true]
 refine ⟨?_, by simp; intro e; rw [e] at h0; simp at h0⟩
 rw [List.all_eq_true]
 intro x hx
 obtain ⟨j, hj, rfl⟩ := List.mem_iff_getElem.1 hx
 have := h j hj
 rw [List.getD_eq_getElem?_getD, List.getElem?_eq_getElem hj] at this
 simpa using this
def digs : Nat -> Nat -> List Nat
 | 0, _ => []
 | f + 1, v => if v = 0 then [] else (v % 10) :: digs f (v / 10)
theorem digs_ok : ∀ f v, v <= f -> Dg 10 (digs f v) /\ Tr (digs f v) /\ val 10 (digs f v) = v /\ (v ≠ 0 -> digs f v ≠ [])
 | 0, v, h => by
  obtain rfl : v = 0 := by omega
  exact ⟨Dg.nil _, Tr.nil, rfl, fun h => absurd rfl h⟩
 | f + 1, v, h => by
  by_cases hv : v = 0
  ·subst hv; simp [digs, val]; exact ⟨Dg.nil _, Tr.nil⟩
  ·obtain ⟨h1, h2, h3, h4⟩ := digs_ok f (v / 10) (by omega)
   have e : digs (f + 1) v = (v % 10) :: digs f (v / 10) := by simp [digs, hv]
   rw [e]
   refine ⟨fun x hx => ?_, .inr ?_, ?_, fun _ => by simp⟩
   ·rcases List.mem_cons.1 hx with rfl | hx
    ·omega
    ·exact h1 x hx
   ·by_cases h0 : v / 10 = 0
    ·have : digs f (v / 10) = [] := by rw [h0]; cases f <;> simp [digs]
     rw [this]; simp; omega
    ·have hne := h4 h0
     have := h2.resolve_left hne
     obtain ⟨n, hn⟩ : ∃ n, (digs f (v / 10)).length = n + 1 := ⟨(digs f (v / 10)).length - 1, by have := List.length_pos_iff.2 hne; omega⟩
     rw [List.length_cons, hn]
     rw [hn] at this
     simpa using this
   ·rw [val_cons, h3]; omega
def printL (neg : Bool) (v : Nat) : List Nat := if digs v v = [] then [48] else (if neg then [45] else []) ++ ((digs v v).map chr).reverse
theorem Printed.is {neg : Bool} {v : Nat} {s : ByteArray} {en : Int} (h : Printed neg v 10 s en) : bs s = printL neg v /\ en = 0 := by
 rcases h with ⟨a, _⟩ | ⟨_, he, D, d1, d2, d3, d4⟩
 ·exact absurd ⟨by omega, by omega⟩ a
 ·obtain ⟨k1, k2, k3, _⟩ := digs_ok v v (Nat.le_refl _)
  have hD : D = digs v v := digits_unique (B := 10) (by omega) d1 k1 d2 k2 (by rw [k3]; exact d3)
  subst hD
  exact ⟨d4, he⟩
def printedB (t : ByteArray) : Bool := digitsB 10 (cutS (bs t)).2 && decide (hv 10 (cutS (bs t)).2 < B32 ^ 40) && decide (bs t = printL ((cutS (bs t)).1 && decide (hv 10 (cutS (bs t)).2 ≠ 0)) (hv 10 (cutS (bs t)).2))
theorem ans_int {w : World} {x : Value} {en : Int} {neg : Bool} {v : Nat} (h : Ans w x en neg v) : (¬ Big v /\ en = 0 /\ ∃ ao n cap l, x = .agg #[.bool (neg && decide (v ≠ 0)), .slice ao n cap] /\ Row .u32 B32 w ao n cap l /\ goodB (neg && decide (v ≠ 0)) l = true /\ val B32 l = v /\ n <= 40) \/ (Big v /\ en = 10) := by
 rcases h with ⟨h1, h2, l, ⟨ao, n, cap, h3, R⟩, h4, h5⟩ | ⟨h1, h2, _⟩
 ·refine .inl ⟨h1, h2, ao, n, cap, l, ?_, R, ?_, h5, ?_⟩
  ·rw [h3]
   have e0 : (neg && decide (l ≠ [])) = (neg && decide (v ≠ 0)) := ?_
   ·rw [e0]
   rw [Bool.eq_iff_iff]
   have := h4.zero_iff (B := B32) (by decide)
   rw [h5] at this
   simp only [Bool.and_eq_true, decide_eq_true_eq, ne_eq]
   have e2 : l.length = 0 ↔ l = [] := List.length_eq_zero_iff
   rw [this, e2]
  ·have hl := (small_len R.dg h4).2 (by rw [h5]; exact h1)
   refine goodB_mk h4 hl fun h0 => ?_
   have := (h4.zero_iff (B := B32) (by decide)).2 h0
   rw [h5] at this
   simp [this]
  ·rw [<- R.len]; exact (small_len R.dg h4).2 (by rw [h5]; exact h1)
 ·exact .inr ⟨h1, h2⟩
theorem Ans.form' {w : World} {x : Value} {en : Int} {neg : Bool} {v : Nat} (h : Ans w x en neg v) : ∃ s ao n cap l, x = .agg #[.bool s, .slice ao n cap] /\ Row .u32 B32 w ao n cap l /\ True := by
 rcases h with ⟨_, _, l, ⟨ao, n, cap, h3, R⟩, _⟩ | ⟨_, _, h⟩
 ·exact ⟨_, ao, n, cap, l, h3, R, trivial⟩
 ·exact ⟨false, none, 0, 0, [], h, Row.nil _ _ _ _, trivial⟩
theorem str_eq (s t : ByteArray) : (s.toList == t.toList) = decide (s = t) := by
 rw [Bool.eq_iff_iff, beq_iff_eq, decide_eq_true_eq]
 constructor
 ·intro h
  rw [Lib.toList_data, Lib.toList_data] at h
  obtain ⟨a⟩ := s
  obtain ⟨b⟩ := t
  exact congrArg ByteArray.mk (Array.toList_inj.1 h)
 ·rintro rfl; rfl
set_option maxHeartbeats 1000000 in
theorem isPrinted_any (t : ByteArray) (w : World) (ht : t.size <= maxLen) : Calls Tryz.prog 151 #[.string t] w fun e w' => e = .returned (.bool (printedB t)) /\ Below w.heap.size w w' := by
 go_enter Tryz.func151, Tryz.ntmps151
 go_wp2_with fail
 refine (parse_any t 10 _ ht).mono ?_
 rintro e w1 ⟨x, en, rfl, b1, hP⟩
 rcases hP with ⟨h, _⟩ | ⟨_, hd, rfl, rfl⟩ | ⟨_, hd, hA⟩
 ·exact absurd ⟨by omega, by omega⟩ h
 ·go_wp2
  go_ret
  refine ⟨?_, Bt b1 (Ba _ _)⟩
  unfold printedB; rw [hd]; rfl
 ·rcases ans_int hA with ⟨hb, rfl, ao, n, cap, l, rfl, R, g, hv_, hn⟩ | ⟨hb, rfl⟩
  ·have b2 := Ba w1 (.cells #[.bool ((cutS (bs t)).1 && decide (hv (10 : Int).toNat (cutS (bs t)).2 ≠ 0)), .slice ao n cap] 24)
   have R2 := hid (R.below b2)
   have G2 := hid g
   have HB := hid (Bt b1 b2)
   have HD := hid hd
   have HV := hid hv_
   have HBG := hid hb
   obtain ⟨sg, hsg⟩ : ∃ sg, sg = ((cutS (bs t)).1 && decide (hv (10 : Int).toNat (cutS (bs t)).2 ≠ 0)) := ⟨_, rfl⟩
   rw [<- hsg] at R2 G2 HB b2 ⊢
   have HSG := hid hsg
   clear R g hA hd hv_ hb b1 b2 hsg
   go_wp2_with fail
   generalize w1.alloc (.cells #[.bool sg, .slice ao n cap] 24) = w2 at *
   refine (print_all sg ao n cap l 10 w2 R2.out G2.out).mono ?_
   rintro e w3 ⟨s, en, rfl, hpr, b3⟩
   obtain ⟨hbs, rfl⟩ := hpr.is
   have HB3 := hid (Bt HB.out b3)
   have HE : Hid (decide (s = t) = printedB t) := by
    unfold Hid printedB
    rw [HV.out, HSG.out] at hbs
    have e10 : (10 : Int).toNat = 10 := rfl
    rw [e10] at hbs
    have hnb : hv 10 (cutS (bs t)).2 < B32 ^ 40 := by have := HBG.out; unfold Big at this; rw [e10] at this; omega
    rw [HD.out, <- hbs]
    simp only [Bool.true_and, hnb, decide_true]
    rw [Bool.eq_iff_iff, decide_eq_true_eq, decide_eq_true_eq]
    exact ⟨fun h => by rw [h], fun h => bs_ext h.symm⟩
   clear hpr hbs b3
   go_wp2
   go_ret
   refine ⟨?_, HB3.out⟩
   rw [<- HE.out]
   exact congrArg (fun z => Ending.returned (.bool z)) (str_eq s t)
  ·have HB := hid b1
   have hp : Hid (printedB t = false) := by
    unfold Hid printedB
    have hnb : ¬ hv 10 (cutS (bs t)).2 < B32 ^ 40 := by unfold Big at hb; have e10 : (10 : Int).toNat = 10 := rfl; rw [e10] at hb; omega
    simp only [hnb, decide_false, Bool.and_false, Bool.false_and]
   obtain ⟨sx, ax, nx, cx, lx, rfl, _, _⟩ := hA.form'
   clear hA hb hd b1
   go_wp2
   go_ret
   exact ⟨by rw [hp.out]; rfl, Bt HB.out (Ba _ _)⟩
end Go.Proofs.YtdekkieajffblaaGreatDoor
