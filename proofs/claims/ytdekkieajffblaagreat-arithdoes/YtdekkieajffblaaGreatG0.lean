/-
  Nodes and graphs in memory: words, and small laws.
-/
import Derived.Test.YtdekkieajffblaaGreatW15
import Derived.Test.YtdekkieajffblaaGreatW6
set_option linter.unusedVariables false
set_option linter.unusedSimpArgs false
namespace Go.Proofs.YtdekkieajffblaaGreat
open Go.RowKit

theorem zero_is (w : World) : IsInt w (.agg #[.bool false, .slice none 0 0]) 0 := ⟨false, [], ⟨none, 0, 0, rfl, Row.nil _ _ _ _⟩, rfl, rfl⟩

theorem map_toNat_inj : ∀ {a b : List UInt8}, a.map UInt8.toNat = b.map UInt8.toNat → a = b
  | [], [], _ => rfl
  | [], _ :: _, h => by simp at h
  | _ :: _, [], h => by simp at h
  | x :: a, y :: b, h => by
    simp only [List.map_cons, List.cons.injEq] at h
    rw [UInt8.toNat_inj.1 h.1, map_toNat_inj h.2]
theorem bs_inj {s : ByteArray} {l : List UInt8} (h : bs s = l.map UInt8.toNat) : s.toList = l := by
  rw [Lib.toList_data]
  exact map_toNat_inj h

theorem six_on {W wx wy : World} {p q r : Nat} {a0 a1 b0 b1 c0 c1 : Value}
    (h : wx.cell? ⟨p, 0, none⟩ = some a0 ∧ wx.cell? ⟨p, 1, none⟩ = some a1 ∧ wx.cell? ⟨q, 0, none⟩ = some b0 ∧ wx.cell? ⟨q, 1, none⟩ = some b1 ∧ wx.cell? ⟨r, 0, none⟩ = some c0 ∧ wx.cell? ⟨r, 1, none⟩ = some c1 ∧ Below W.heap.size W wx) (hb : Below wx.heap.size wx wy) :
    wy.cell? ⟨p, 0, none⟩ = some a0 ∧ wy.cell? ⟨p, 1, none⟩ = some a1 ∧ wy.cell? ⟨q, 0, none⟩ = some b0 ∧ wy.cell? ⟨q, 1, none⟩ = some b1 ∧ wy.cell? ⟨r, 0, none⟩ = some c0 ∧ wy.cell? ⟨r, 1, none⟩ = some c1 ∧ Below W.heap.size W wy := by
  obtain ⟨h1, h2, h3, h4, h5, h6, h7⟩ := h
  exact ⟨(hb.cell (p := ⟨p, 0, none⟩) (cell_lt h1)).trans h1, (hb.cell (p := ⟨p, 1, none⟩) (cell_lt h1)).trans h2, (hb.cell (p := ⟨q, 0, none⟩) (cell_lt h3)).trans h3, (hb.cell (p := ⟨q, 1, none⟩) (cell_lt h3)).trans h4, (hb.cell (p := ⟨r, 0, none⟩) (cell_lt h5)).trans h5, (hb.cell (p := ⟨r, 1, none⟩) (cell_lt h5)).trans h6, Bt h7 hb⟩
theorem six_bel {W wx : World} {p q r : Nat} {a0 a1 b0 b1 c0 c1 : Value}
    (h : wx.cell? ⟨p, 0, none⟩ = some a0 ∧ wx.cell? ⟨p, 1, none⟩ = some a1 ∧ wx.cell? ⟨q, 0, none⟩ = some b0 ∧ wx.cell? ⟨q, 1, none⟩ = some b1 ∧ wx.cell? ⟨r, 0, none⟩ = some c0 ∧ wx.cell? ⟨r, 1, none⟩ = some c1 ∧ Below W.heap.size W wx) : Below W.heap.size W wx := h.2.2.2.2.2.2

end Go.Proofs.YtdekkieajffblaaGreat

set_option linter.unusedVariables false
set_option linter.unusedSimpArgs false
namespace Go.Proofs.YtdekkieajffblaaGreat
open Go.RowKit

/-- What the document's Print answers of a radix that is one. -/
def RPrint (w : World) (neg : Bool) (v : Nat) (radix : Nat) (e : Ending) (w' : World) : Prop :=
  ∃ s D, e = .returned (.tuple #[.string s, .int .i64 0]) ∧ Dg radix D ∧ Tr D ∧ val radix D = v ∧ bs s = (if D = [] then [48] else (if neg then [45] else []) ++ (D.map chr).reverse) ∧ Below w.heap.size w w'
theorem or_i64_8 (a d : Nat) (h1 : a < 36) (h2 : d < 256) : bits .or .i64 ((a : Int) * 256) (d : Int) = ((a * 256 + d : Nat) : Int) := by
  rw [show ((a : Int) * 256) = ((a * 256 : Nat) : Int) by omega]
  have h3 : (BitVec.ofInt 64 ((a * 256 : Nat) : Int)).toNat = a * 256 := by
    rw [BitVec.ofInt_natCast, BitVec.toNat_ofNat]; exact Nat.mod_eq_of_lt (by omega)
  have h4 : (BitVec.ofInt 64 ((d : Nat) : Int)).toNat = d := by
    rw [BitVec.ofInt_natCast, BitVec.toNat_ofNat]; exact Nat.mod_eq_of_lt (by omega)
  show IntKind.i64.wrap ((BitVec.ofInt 64 ((a * 256 : Nat) : Int) ||| BitVec.ofInt 64 (d : Int)).toNat : Int) = _
  rw [BitVec.toNat_or, h3, h4, nat_join 8 _ _ (by omega) (by omega), IntKind.wrap_i64]
  omega
theorem dt_slice (d : Nat) (h : d < 36) : bs (digitText.extract d (d + 1)) = [chr d] := by
  have : ∀ d : Fin 36, bs (digitText.extract d.1 (d.1 + 1)) = [chr d.1] := by decide
  exact this ⟨d, h⟩
theorem bs_append (s t : ByteArray) : bs (s ++ t) = bs s ++ bs t := by
  unfold bs; simp
theorem pow_bound8 {l : List Nat} (h : Dg 256 l) (hl : l.length ≤ 160) : ∃ N, N ≤ 1280 ∧ val 256 l < 2 ^ N := by
  refine ⟨8 * l.length, by omega, ?_⟩
  have := val_lt h
  rw [show 256 = 2 ^ 8 from rfl, ← Nat.pow_mul] at this
  exact this

end Go.Proofs.YtdekkieajffblaaGreat

set_option linter.unusedVariables false
set_option linter.unusedSimpArgs false
namespace Go.Proofs.YtdekkieajffblaaGreat
open Go.RowKit

theorem Tr.tail {a : Nat} {t : List Nat} (h : Tr (a :: t)) : Tr t := by
  cases t with
  | nil => exact .inl rfl
  | cons c t =>
    rcases h with h | h
    · cases h
    · refine .inr ?_
      simpa using h
theorem digits_unique {B : Nat} (hB : 1 < B) : ∀ {D D' : List Nat}, Dg B D → Dg B D' → Tr D → Tr D' → val B D = val B D' → D = D'
  | [], [], _, _, _, _, _ => rfl
  | [], b :: t', _, _, _, h4, h => by
    have := h4.ne_zero (B := B) (by omega) (by simp)
    exact absurd h.symm this
  | a :: t, [], _, _, h3, _, h => by
    have := h3.ne_zero (B := B) (by omega) (by simp)
    exact absurd h this
  | a :: t, b :: t', h1, h2, h3, h4, h => by
    have ha : a < B := h1 a (by simp)
    have hb : b < B := h2 b (by simp)
    rw [val_cons, val_cons] at h
    have e1 : a = b := by
      have := congrArg (· % B) h
      simp only [Nat.add_mul_mod_self_left] at this
      rwa [Nat.mod_eq_of_lt ha, Nat.mod_eq_of_lt hb] at this
    subst e1
    have e2 : val B t = val B t' := Nat.eq_of_mul_eq_mul_left (show 0 < B by omega) (by omega)
    rw [digits_unique hB (fun x hx => h1 x (by simp [hx])) (fun x hx => h2 x (by simp [hx])) h3.tail h4.tail e2]
theorem bs_ext {s t : ByteArray} (h : bs s = bs t) : s = t := by
  cases s with | mk a => cases t with | mk b =>
  have : a.toList = b.toList := map_toNat_inj h
  rw [Array.toList_inj.1 this]

/-- What Print answers. -/
def Printed (neg : Bool) (v : Nat) (radix : Int) (s : ByteArray) (en : Int) : Prop :=
  (¬ (2 ≤ radix ∧ radix ≤ 36) ∧ bs s = [] ∧ en = 1) ∨
  ((2 ≤ radix ∧ radix ≤ 36) ∧ en = 0 ∧ ∃ D, Dg radix.toNat D ∧ Tr D ∧ val radix.toNat D = v ∧ bs s = (if D = [] then [48] else (if neg then [45] else []) ++ (D.map chr).reverse))
theorem Printed.one {neg : Bool} {v : Nat} {radix : Int} {s s' : ByteArray} {en en' : Int} (h : Printed neg v radix s en) (h' : Printed neg v radix s' en') : s' = s ∧ en' = en := by
  rcases h with ⟨a, b, c⟩ | ⟨a, b, D, d1, d2, d3, d4⟩ <;> rcases h' with ⟨a', b', c'⟩ | ⟨a', b', D', d1', d2', d3', d4'⟩
  · exact ⟨bs_ext (b'.trans b.symm), c'.trans c.symm⟩
  · exact absurd a' a
  · exact absurd a a'
  · have : D' = D := digits_unique (by omega) d1' d1 d2' d2 (d3'.trans d3.symm)
    subst this
    exact ⟨bs_ext (d4'.trans d4.symm), b'.trans b.symm⟩
def PrPost (w : World) (neg : Bool) (v : Nat) (radix : Int) (e : Ending) (w' : World) : Prop := ∃ s en, e = .returned (.tuple #[.string s, .int .i64 en]) ∧ Printed neg v radix s en ∧ Below w.heap.size w w'

end Go.Proofs.YtdekkieajffblaaGreat

set_option linter.unusedVariables false
set_option linter.unusedSimpArgs false
namespace Go.Proofs.YtdekkieajffblaaGreat
open Go.RowKit

/-- A node as data. -/
structure Nd where
  kind : Int
  num : Int
  text : ByteArray
  kids : List Int
instance : Inhabited Nd := ⟨⟨0, 0, ByteArray.empty, []⟩⟩

def I64 (z : Int) : Prop := -9223372036854775808 ≤ z ∧ z ≤ 9223372036854775807

/-- A slice of numbers of 64 bits, which are those of l. -/
structure IRow (w : World) (ao : Option Addr) (n cap : Nat) (l : List Int) : Prop where
  len : l.length = n
  fits : n ≤ cap
  most : cap ≤ maxLen
  nil_ : ao = none → cap = 0
  bd : ∀ z ∈ l, I64 z
  rd : l = [] ∨ ∃ b o, ao = some ⟨b, o, none⟩ ∧ b < w.heap.size ∧ ∀ i, i < l.length → w.cell? ⟨b, o + i, none⟩ = some (.int .i64 (l.getD i 0))
theorem IRow.some {w : World} {ao : Option Addr} {n cap : Nat} {l : List Int} (h : IRow w ao n cap l) (hl : 0 < n) :
    ∃ b o, ao = some ⟨b, o, none⟩ ∧ b < w.heap.size ∧ ∀ i, i < n → w.cell? ⟨b, o + i, none⟩ = some (.int .i64 (l.getD i 0)) := by
  rcases h.rd with e | h2
  · have := h.len; simp [e] at this; omega
  · rw [h.len] at h2; exact h2
theorem IRow.below {w w' : World} {ao : Option Addr} {n cap : Nat} {l : List Int} (h : IRow w ao n cap l) (hb : Below w.heap.size w w') : IRow w' ao n cap l := by
  refine ⟨h.len, h.fits, h.most, h.nil_, h.bd, ?_⟩
  rcases h.rd with e | ⟨b, o, e, hl, hc⟩
  · exact .inl e
  · exact .inr ⟨b, o, e, Nat.lt_of_lt_of_le hl hb.size, fun i hi => (hb.cell (p := ⟨b, o + i, none⟩) hl).trans (hc i hi)⟩
theorem IRow.nil (w : World) (ao : Option Addr) : IRow w ao 0 0 [] := ⟨rfl, Nat.le_refl _, Nat.zero_le _, fun _ => rfl, fun _ h => (by cases h), .inl rfl⟩
theorem IRow.get {w : World} {ao : Option Addr} {n cap : Nat} {l : List Int} (h : IRow w ao n cap l) {i : Nat} (hi : i < n) : I64 (l.getD i 0) := by
  have hi' : i < l.length := by rw [h.len]; exact hi
  rw [List.getD_eq_getElem?_getD, List.getElem?_eq_getElem hi']
  exact h.bd _ (List.getElem_mem hi')

/-- A node's cells lie there. -/
def NdAt (w : World) (b o : Nat) (d : Nd) : Prop :=
  w.cell? ⟨b, o, none⟩ = some (.int .i64 d.kind) ∧ w.cell? ⟨b, o + 1, none⟩ = some (.int .i64 d.num) ∧ w.cell? ⟨b, o + 2, none⟩ = some (.string d.text) ∧
    ∃ ao n cap, w.cell? ⟨b, o + 3, none⟩ = some (.slice ao n cap) ∧ IRow w ao n cap d.kids
theorem NdAt.below {w w' : World} {b o : Nat} {d : Nd} (h : NdAt w b o d) (hl : b < w.heap.size) (hb : Below w.heap.size w w') : NdAt w' b o d := by
  obtain ⟨h1, h2, h3, ao, n, cap, h4, h5⟩ := h
  exact ⟨(hb.cell (p := ⟨b, o, none⟩) hl).trans h1, (hb.cell (p := ⟨b, o + 1, none⟩) hl).trans h2, (hb.cell (p := ⟨b, o + 2, none⟩) hl).trans h3, ao, n, cap, (hb.cell (p := ⟨b, o + 3, none⟩) hl).trans h4, h5.below hb⟩
/-- What a node's numbers and text fit into. -/
def NdOk (d : Nd) : Prop := I64 d.kind ∧ I64 d.num ∧ d.text.size ≤ maxLen
/-- A slice of nodes, which are those of l. -/
structure NRow (w : World) (ao : Option Addr) (n cap : Nat) (l : List Nd) : Prop where
  len : l.length = n
  fits : n ≤ cap
  most : cap ≤ maxLen
  nil_ : ao = none → cap = 0
  ok : ∀ d ∈ l, NdOk d
  rd : l = [] ∨ ∃ b o, ao = some ⟨b, o, none⟩ ∧ b < w.heap.size ∧ ∀ i, i < l.length → NdAt w b (o + i * 4) (l.getD i default)
theorem NRow.some {w : World} {ao : Option Addr} {n cap : Nat} {l : List Nd} (h : NRow w ao n cap l) (hl : 0 < n) :
    ∃ b o, ao = some ⟨b, o, none⟩ ∧ b < w.heap.size ∧ ∀ i, i < n → NdAt w b (o + i * 4) (l.getD i default) := by
  rcases h.rd with e | h2
  · have := h.len; simp [e] at this; omega
  · rw [h.len] at h2; exact h2
theorem NRow.below {w w' : World} {ao : Option Addr} {n cap : Nat} {l : List Nd} (h : NRow w ao n cap l) (hb : Below w.heap.size w w') : NRow w' ao n cap l := by
  refine ⟨h.len, h.fits, h.most, h.nil_, h.ok, ?_⟩
  rcases h.rd with e | ⟨b, o, e, hl, hc⟩
  · exact .inl e
  · exact .inr ⟨b, o, e, Nat.lt_of_lt_of_le hl hb.size, fun i hi => (hc i hi).below hl hb⟩
theorem NRow.get {w : World} {ao : Option Addr} {n cap : Nat} {l : List Nd} (h : NRow w ao n cap l) {i : Nat} (hi : i < n) : NdOk (l.getD i default) := by
  have hi' : i < l.length := by rw [h.len]; exact hi
  rw [List.getD_eq_getElem?_getD, List.getElem?_eq_getElem hi']
  exact h.ok _ (List.getElem_mem hi')
theorem NRow.nil (w : World) (ao : Option Addr) : NRow w ao 0 0 [] := ⟨rfl, Nat.le_refl _, Nat.zero_le _, fun _ => rfl, fun _ h => (by cases h), .inl rfl⟩

/-- A graph's value. -/
def GVal (an : Option Addr) (nn cn : Nat) (ar : Option Addr) (nr cr : Nat) : Value := .agg #[.slice an nn cn, .slice ar nr cr]
/-- The graph with these nodes and roots lies there. -/
structure GIs (w : World) (an : Option Addr) (nn cn : Nat) (ar : Option Addr) (nr cr : Nat) (ns : List Nd) (rs : List Int) : Prop where
  nodes : NRow w an nn cn ns
  roots : IRow w ar nr cr rs
theorem GIs.below {w w' : World} {an ar : Option Addr} {nn cn nr cr : Nat} {ns : List Nd} {rs : List Int} (h : GIs w an nn cn ar nr cr ns rs) (hb : Below w.heap.size w w') : GIs w' an nn cn ar nr cr ns rs := ⟨h.nodes.below hb, h.roots.below hb⟩

/-- A block of two slices: a graph in a variable. -/
def GBox (t : TypeId) (w : World) (p : Nat) (an : Option Addr) (nn cn : Nat) (ar : Option Addr) (nr cr : Nat) : Prop := w.heap[p]? = some (.cells #[.slice an nn cn, .slice ar nr cr] t (0, 0))
theorem GBox.lt {t : TypeId} {w : World} {p : Nat} {an ar : Option Addr} {nn cn nr cr : Nat} (h : GBox t w p an nn cn ar nr cr) : p < w.heap.size := (Array.getElem?_eq_some_iff.1 h).1
theorem GBox.on {t : TypeId} {w w' : World} {p : Nat} {an ar : Option Addr} {nn cn nr cr : Nat} (h : GBox t w p an nn cn ar nr cr) (hb : Below w.heap.size w w') : GBox t w' p an nn cn ar nr cr := (hb.block p h.lt).trans h
theorem GBox.c {t : TypeId} {w : World} {p : Nat} {an ar : Option Addr} {nn cn nr cr : Nat} (h : GBox t w p an nn cn ar nr cr) : w.cell? ⟨p, 0, none⟩ = some (.slice an nn cn) ∧ w.cell? ⟨p, 1, none⟩ = some (.slice ar nr cr) := ⟨blk_cell h 0, blk_cell h 1⟩
theorem GBox.new (t : TypeId) (w : World) (an ar : Option Addr) (nn cn nr cr : Nat) : GBox t (w.alloc (.cells #[.slice an nn cn, .slice ar nr cr] t)) w.heap.size an nn cn ar nr cr := blk_new _ _ _

/-- Few and small, up to place k. -/
def fewTo (ns : List Nd) (k : Nat) : Bool := (ns.take k).all fun d => decide (d.text.size ≤ 2000) && decide (d.kids.length ≤ 100)
def fewB (ns : List Nd) (rs : List Int) (most : Nat) : Bool := decide (ns.length ≤ most) && decide (rs.length ≤ most) && fewTo ns ns.length
theorem fewTo_succ {ns : List Nd} {k : Nat} (h : k < ns.length) : fewTo ns (k + 1) = (fewTo ns k && (decide ((ns.getD k default).text.size ≤ 2000) && decide ((ns.getD k default).kids.length ≤ 100))) := by
  unfold fewTo
  rw [List.take_succ_eq_append_getElem h, List.all_append, List.getD_eq_getElem?_getD, List.getElem?_eq_getElem h]; simp
theorem fewTo_false {ns : List Nd} {k j : Nat} (hk : k < j) (hj : j ≤ ns.length) (h : fewTo ns (k + 1) = false) : fewTo ns j = false := by
  unfold fewTo at *
  rw [List.all_eq_false] at h ⊢
  obtain ⟨x, hx, h2⟩ := h
  refine ⟨x, ?_, h2⟩
  exact (List.take_prefix_take_left (l := ns) (by omega : k + 1 ≤ j)).subset hx

theorem store2 {w : World} {g : Nat} {a b v1 v2 : Value} {t : TypeId} (h : w.heap[g]? = some (.cells #[a, b] t (0, 0))) : ((w.setCell ⟨g, 0, none⟩ v1).setCell ⟨g, 1, none⟩ v2).heap[g]? = some (.cells #[v1, v2] t (0, 0)) := by
  have h1 := blk_set (i := 0) h v1
  have h2 := blk_set (i := 1) h1 v2
  rw [h2]; rfl
theorem store2_far {w : World} {g b : Nat} {v1 v2 : Value} (h : b ≠ g) : ((w.setCell ⟨g, 0, none⟩ v1).setCell ⟨g, 1, none⟩ v2).heap[b]? = w.heap[b]? :=
  (Below.heap_setCell _ _ _ _ h).trans (Below.heap_setCell _ _ _ _ h)
theorem store2_below {n : Nat} {w0 w : World} {g : Nat} {v1 v2 : Value} (h : Below n w0 w) (hg : n ≤ g) : Below n w0 ((w.setCell ⟨g, 0, none⟩ v1).setCell ⟨g, 1, none⟩ v2) :=
  (h.setCell (p := ⟨g, 0, none⟩) hg _).setCell (p := ⟨g, 1, none⟩) hg _

end Go.Proofs.YtdekkieajffblaaGreat
