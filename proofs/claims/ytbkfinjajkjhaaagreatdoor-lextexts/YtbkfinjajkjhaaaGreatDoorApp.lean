import Derived.Test.YtbkfinjajkjhaaaGreatDoorW2
import Derived.Laws.BitsAllLaws
import Derived.Deep.AppendLies
import Derived.Laws.AppendOwnNone
set_option linter.unusedVariables false
set_option linter.unusedSimpArgs false
namespace Go.Proofs.YtbkfinjajkjhaaaGreatDoor
open Go.RowKit
structure Win (k : IntKind) (e : TypeId) (w : World) (g o n : Nat) (cur : Array Value) (l : List Nat) : Prop where
 blk : w.heap[g]? = some (.cells cur e (0, 0))
 fits : o + n <= cur.size
 len : l.length = n
 at_ : ∀ i, i < n -> cur[o + i]? = some (.int k (l.getD i 0 : Nat))
structure Onto (k : IntKind) (e : TypeId) (g o n : Nat) (w w' : World) (cur : Array Value) (l : List Nat) : Prop where
 os : w'.os = w.os
 tape : w'.tape = w.tape
 output : w'.output = w.output
 size : w'.heap.size = w.heap.size
 block : ∀ j, j ≠ g -> w'.heap[j]? = w.heap[j]?
 row : ∃ cur', Win k e w' g o n cur' l /\ cur'.size = cur.size /\ ∀ j, (j < o \/ o + n <= j) -> cur'[j]? = cur[j]?
variable {k : IntKind} {e : TypeId} {g o n : Nat} {w w' w'' : World} {cur : Array Value} {l : List Nat}
theorem Win.cell (h : Win k e w g o n cur l) {i : Nat} (hi : i < n) : w.cell? ⟨g, o + i, none⟩ = some (.int k (l.getD i 0 : Nat)) := by
 simp [World.cell?, h.blk, h.at_ i hi]
theorem Win.frozen (h : Win k e w g o n cur l) (i : Nat) : w.frozen? ⟨g, i, none⟩ = false := by simp [World.frozen?, h.blk]
theorem Win.lt (h : Win k e w g o n cur l) : g < w.heap.size := (Array.getElem?_eq_some_iff.1 h.blk).1
theorem Win.onto (h : Win k e w g o n cur l) : Onto k e g o n w w cur l := ⟨rfl, rfl, rfl, rfl, fun _ _ => rfl, cur, h, rfl, fun _ _ => rfl⟩
theorem Win.rd (h : Win k e w g o n cur l) : Rd k w (some ⟨g, o, none⟩) l := .inr ⟨g, o, rfl, h.lt, fun i hi => h.cell (by rw [<- h.len]; exact hi)⟩
theorem Onto.cell (h : Onto k e g o n w w' cur l) {i : Nat} (hi : i < n) : w'.cell? ⟨g, o + i, none⟩ = some (.int k (l.getD i 0 : Nat)) := by
 obtain ⟨c, hw, _⟩ := h.row; exact hw.cell hi
theorem Onto.frozen (h : Onto k e g o n w w' cur l) (i : Nat) : w'.frozen? ⟨g, i, none⟩ = false := by
 obtain ⟨c, hw, _⟩ := h.row; exact hw.frozen i
theorem Onto.len (h : Onto k e g o n w w' cur l) : l.length = n := by
 obtain ⟨c, hw, _⟩ := h.row; exact hw.len
theorem Onto.lt (h : Onto k e g o n w w' cur l) : g < w'.heap.size := by
 obtain ⟨c, hw, _⟩ := h.row; exact hw.lt
theorem Onto.drewN (h : Onto k e g o n w w' cur l) (q : Nat) : Onto k e g o n w (w'.drewN q) cur l := by
 obtain ⟨c, hw, h1, h2⟩ := h.row
 exact ⟨h.os, h.tape, h.output, h.size, h.block, c, ⟨hw.blk, hw.fits, hw.len, hw.at_⟩, h1, h2⟩
theorem getD_set {l : List Nat} {i j x : Nat} (hi : i < l.length) : (l.set i x).getD j 0 = if j = i then x else l.getD j 0 := by
 rw [List.getD_eq_getElem?_getD, List.getElem?_set]
 by_cases h : i = j
 ·subst h; simp [hi]
 ·rw [if_neg h, if_neg (fun e => h e.symm), <- List.getD_eq_getElem?_getD]
theorem Onto.store (h : Onto k e g o n w w' cur l) {i : Nat} (hi : i < n) (x : Nat) : Onto k e g o n w (w'.setCell ⟨g, o + i, none⟩ (.int k x)) cur (l.set i x) := by
 obtain ⟨c, hw, h1, h2⟩ := h.row
 have hb : (w'.setCell ⟨g, o + i, none⟩ (.int k x)).heap[g]? = some (.cells (c.setIfInBounds (o + i) (.int k x)) e (0, 0)) := by
  simp [World.setCell, Array.getElem?_modify, hw.blk]
 refine ⟨h.os, h.tape, h.output, by rw [<- h.size]; simp [World.setCell], fun j hj => ?_, c.setIfInBounds (o + i) (.int k x), ⟨hb, by simpa using hw.fits, by simpa using hw.len, fun j hj => ?_⟩, by simpa using h1, fun j hj => ?_⟩
 ·rw [<- h.block j hj]; exact Below.heap_setCell _ _ _ _ hj
 ·have := hw.fits
  rw [Array.getElem?_setIfInBounds, getD_set (by rw [hw.len]; exact hi)]
  by_cases e1 : j = i
  ·subst e1; simp; omega
  ·rw [if_neg (by omega), if_neg e1]; exact hw.at_ j hj
 ·rw [Array.getElem?_setIfInBounds, if_neg (by omega)]; exact h2 j hj
theorem Onto.below (h : Onto k e g o n w w' cur l) {B : Nat} (hB : B <= g) : Below B w w' := ⟨h.os, h.tape, h.output, Nat.le_of_eq h.size.symm, fun j hj => h.block j (by omega)⟩
theorem Onto.congr (h : Onto k e g o n w w' cur l) {l2 : List Nat} (e2 : l = l2) : Onto k e g o n w w' cur l2 := e2 ▸ h
structure Own (k : IntKind) (e : TypeId) (B base : Nat) (w : World) (ao : Option Addr) (n cap : Nat) (l : List Nat) : Prop where
 row : Row k B w ao n cap l
 own : n = 0 \/ ∃ g cur, ao = some ⟨g, 0, none⟩ /\ base <= g /\ Win k e w g 0 n cur l
def cs (k : IntKind) (l : List Nat) : List Value := l.map fun (x : Nat) => Value.int k (x : Int)
theorem cs_length (k : IntKind) (l : List Nat) : (cs k l).length = l.length := by simp [cs]
theorem cs_append (k : IntKind) (l r : List Nat) : cs k (l ++ r) = cs k l ++ cs k r := by simp [cs]
theorem cs_get {k : IntKind} {l : List Nat} {j : Nat} {u : Value} (h : (cs k l)[j]? = some u) : j < l.length /\ u = .int k (l.getD j 0 : Nat) := by
 unfold cs at h
 rw [List.getElem?_map] at h
 by_cases hj : j < l.length
 ·rw [List.getElem?_eq_getElem hj] at h
  refine ⟨hj, ?_⟩
  rw [List.getD_eq_getElem?_getD, List.getElem?_eq_getElem hj]
  simp at h
  exact h.symm
 ·rw [List.getElem?_eq_none (by omega)] at h; simp at h
theorem cs_get_of {k : IntKind} {l : List Nat} {j : Nat} (hj : j < l.length) : (cs k l)[j]? = some (.int k (l.getD j 0 : Nat)) := by
 unfold cs
 rw [List.getElem?_map, List.getD_eq_getElem?_getD, List.getElem?_eq_getElem hj]; rfl
theorem cs_one (k : IntKind) (l : List Nat) : ∀ u ∈ cs k l, u.oneCell' = true := by
 intro u hu
 unfold cs at hu
 obtain ⟨x, _, rfl⟩ := List.mem_map.1 hu
 rfl
theorem own_of {w : World} {base : Nat} {e : TypeId} {v : Value} {n : Nat} {k : IntKind} {l : List Nat} {B : Nat} (h : w.ownsRow base e 1 v n (cs k l)) (hd : Dg B l) :
  ∃ ao cap, v = .slice ao n cap /\ Own k e B base w ao n cap l := by
 have hn : l.length = n := by have := h.1; rw [cs_length] at this; omega
 rcases h.2 with ⟨rfl, h0⟩ | ⟨g, cap, cur, rfl, hb, hg, hle, hm, hsz, htk⟩
 ·subst h0
  have : l = [] := List.length_eq_zero_iff.1 hn
  subst this
  exact ⟨none, 0, rfl, Row.nil _ _ _ _, .inl rfl⟩
 ·have hwin : Win k e w g 0 n cur l := by
   refine ⟨hg, by omega, hn, fun i hi => ?_⟩
   have h1 : (cs k l)[i]? = some (.int k (l.getD i 0 : Nat)) := cs_get_of (by omega)
   rw [<- htk, List.getElem?_take, if_pos (by omega)] at h1
   rw [Nat.zero_add, <- Array.getElem?_toList]; exact h1
  exact ⟨some ⟨g, 0, none⟩, cap, rfl, ⟨hn, hle, hm, fun h => (by cases h), hd, hwin.rd⟩, .inr ⟨g, cur, rfl, hb, hwin⟩⟩
theorem Own.nil (k : IntKind) (e : TypeId) (B base : Nat) (w : World) (ao : Option Addr) : Own k e B base w ao 0 0 [] := ⟨Row.nil _ _ _ _, .inl rfl⟩
theorem Win.below {k : IntKind} {e : TypeId} {w w' : World} {g o n : Nat} {cur : Array Value} {l : List Nat} (h : Win k e w g o n cur l) (hb : Below w.heap.size w w') : Win k e w' g o n cur l :=
 ⟨(hb.block g h.lt).trans h.blk, h.fits, h.len, h.at_⟩
theorem Win.on {k : IntKind} {e : TypeId} {w w' : World} {g o n B : Nat} {cur : Array Value} {l : List Nat} (h : Win k e w g o n cur l) (hb : Below B w w') (hg : g < B) : Win k e w' g o n cur l :=
 ⟨(hb.block g hg).trans h.blk, h.fits, h.len, h.at_⟩
theorem Win.take {k : IntKind} {e : TypeId} {w : World} {g o n m : Nat} {cur : Array Value} {l : List Nat} (h : Win k e w g o n cur l) (hm : m <= n) : Win k e w g o m cur (l.take m) :=
 ⟨h.blk, by have := h.fits; omega, by rw [List.length_take, h.len, Nat.min_eq_left hm], fun i hi => by rw [getD_take hi]; exact h.at_ i (by omega)⟩
theorem owns_win {w : World} {base : Nat} {e : TypeId} {v : Value} {n : Nat} {k : IntKind} {l : List Nat} (h : w.ownsRow base e 1 v n (cs k l)) (hn : 0 < n) :
  ∃ g cap cur, v = .slice (some ⟨g, 0, none⟩) n cap /\ base <= g /\ n <= cap /\ cap <= maxLen /\ cur.size = cap /\ Win k e w g 0 n cur l := by
 have hl : l.length = n := by have := h.1; rw [cs_length] at this; omega
 rcases h.2 with ⟨_, h0⟩ | ⟨g, cap, cur, rfl, hb, hg, hle, hm, hsz, htk⟩
 ·omega
 ·refine ⟨g, cap, cur, rfl, hb, hle, hm, by omega, hg, by omega, hl, fun i hi => ?_⟩
  have h1 : (cs k l)[i]? = some (.int k (l.getD i 0 : Nat)) := cs_get_of (by omega)
  rw [<- htk, List.getElem?_take, if_pos (by omega)] at h1
  rw [Nat.zero_add, <- Array.getElem?_toList]; exact h1
theorem owns_of_win {w : World} {base : Nat} {e : TypeId} {n g cap : Nat} {k : IntKind} {l : List Nat} {cur : Array Value} (hb : base <= g) (h1 : n <= cap) (h2 : cap <= maxLen) (h3 : cur.size = cap) (hw : Win k e w g 0 n cur l) :
  w.ownsRow base e 1 (.slice (some ⟨g, 0, none⟩) n cap) n (cs k l) := by
 refine ⟨by rw [cs_length, hw.len]; omega, .inr ⟨g, cap, cur, rfl, hb, hw.blk, h1, h2, by omega, ?_⟩⟩
 apply List.ext_getElem?
 intro i
 rw [List.getElem?_take]
 by_cases hi : i < n
 ·rw [if_pos (by omega), Array.getElem?_toList, cs_get_of (by rw [hw.len]; exact hi)]
  have := hw.at_ i hi
  rwa [Nat.zero_add] at this
 ·rw [if_neg (by omega), List.getElem?_eq_none (by rw [cs_length, hw.len]; omega)]
theorem owns_onto {w w' : World} {base : Nat} {e : TypeId} {n g cap : Nat} {k : IntKind} {l : List Nat} {cur : Array Value} (hb : base <= g) (h1 : n <= cap) (h2 : cap <= maxLen) (h3 : cur.size = cap) (hO : Onto k e g 0 n w w' cur l) :
  w'.ownsRow base e 1 (.slice (some ⟨g, 0, none⟩) n cap) n (cs k l) := by
 obtain ⟨c, hw, hc, _⟩ := hO.row
 exact owns_of_win hb h1 h2 (by omega) hw
theorem owns_far {w w' : World} {base : Nat} {e e' : TypeId} {v : Value} {n m g o : Nat} {k : IntKind} {xs : List Value} {l : List Nat} {cur : Array Value} (h : w.ownsRow base e 1 v n xs) (hg : g < base) (hO : Onto k e' g o m w w' cur l) : w'.ownsRow base e 1 v n xs := by
 refine ⟨h.1, ?_⟩
 rcases h.2 with h0 | ⟨g', cap, cur', h1, h2, h3, h4⟩
 ·exact .inl h0
 ·exact .inr ⟨g', cap, cur', h1, h2, (hO.block g' (by omega)).trans h3, h4⟩
theorem own0 (w : World) (k : IntKind) (e : TypeId) : (w.alloc (.cells #[] e)).ownsRow w.heap.size e 1 (.slice (some ⟨w.heap.size, 0, none⟩) 0 0) 0 (cs k []) :=
 World.ownsRow_made (base := w.heap.size) (e := e) (size := 1) w #[] 0 (Nat.le_refl _) (Nat.zero_le _) rfl
theorem bel_of {w w' : World} {base : Nat} {e : TypeId} {v : Value} {n : Nat} {xs : List Value} (hown : w.ownsRow base e 1 v n xs) (hbase : base <= w.heap.size) (hg : w.grownBy w' v.ownBlock) : Below base w w' :=
 (Below.refl base w).grown hg hbase (fun k hk => (hown.lt k hk).1)
theorem Bb {w w1 w2 : World} {B : Nat} (hb : Below w.heap.size w w1) (h2 : Below B w1 w2) (hB : w.heap.size <= B) : Below w.heap.size w w2 := hb.trans (h2.mono hB)
theorem cell_new (w : World) (v : Value) (e : TypeId) : (w.alloc (.cells #[v] e)).cell? ⟨w.heap.size, 0, none⟩ = some v := by simp
variable {P : Program} {w : World} {ops : Array Oper} {rest : List Oper} {o : Oper} {a : Act} {Q : Exit -> Act -> World -> Prop}
theorem app1 (hgd : o.guard = none) (s x : Operand) (t : TypeId) (ho : o.op = .call { callee := .builtin .append, args := #[s, x], argTypes := #[t, t] })
  (base : Nat) (e : TypeId) (k : IntKind) (bytes : Nat) (hby : bytes <= 8) (ht : P.underlying t = some (.slice e)) (hi : (P.info? e).map (fun i => (i.zero, i.size, i.bytes)) = some (some (.int k 0), 1, bytes))
  (v : Value) (n : Nat) (l : List Nat) (hs : a.eval s = v) (hown : w.ownsRow base e 1 v n (cs k l))
  (ad : Addr) (c : Nat) (d : Nat) (hx : a.eval x = .slice (some ad) 1 c) (hd : w.cell? ad = some (.int k d)) (hsm : n <= 1000000) (hbase : base <= w.heap.size)
  (h : ∀ g cap w', w'.ownsRow base e 1 (.slice (some ⟨g, 0, none⟩) (n + 1) cap) (n + 1) (cs k (l ++ [d])) -> Below base w w' -> wpList P ops Q rest (a.put o.dst (.slice (some ⟨g, 0, none⟩) (n + 1) cap)) w') :
  wpList P ops Q (o :: rest) a w := by
 obtain ⟨i0, hi0, hz0, hz1, hz2⟩ := info_parts hi
 refine wpList_append_lies w hgd s x t ho base e i0 (.int k 0) 1 bytes ht hi0 hz0 hz1 hz2 rfl (by decide) v n (cs k l) hs hown ad 1 c [.int k d] hx rfl ?_ ?_ (by decide) (by unfold maxLen; omega) ?_ hbase w.heap.size rfl ?_
 ·intro j u hj
  match j, hj with
  | 0, hj => simp at hj; subst hj; simpa [Addr.add] using hd
 ·intro u hu; simp at hu; subst hu; rfl
 ·have : (n + 1) * bytes <= 1000001 * 8 := Nat.mul_le_mul (by omega) hby
  omega
 ·intro g cap w' h1 h2 h3 h4
  refine h g cap w' ?_ (bel_of hown hbase h2)
  rw [cs_append]; exact h1
theorem appRow (hgd : o.guard = none) (s x : Operand) (t : TypeId) (ho : o.op = .call { callee := .builtin .append, args := #[s, x], argTypes := #[t, t] })
  (base : Nat) (e : TypeId) (k : IntKind) (bytes : Nat) (hby : bytes <= 8) (ht : P.underlying t = some (.slice e)) (hi : (P.info? e).map (fun i => (i.zero, i.size, i.bytes)) = some (some (.int k 0), 1, bytes))
  (v : Value) (n : Nat) (l : List Nat) (hs : a.eval s = v) (hown : w.ownsRow base e 1 v n (cs k l))
  (B : Nat) (ao : Option Addr) (m c : Nat) (r : List Nat) (hx : a.eval x = .slice ao m c) (hr : Row k B w ao m c r) (hsm : n + m <= 1000000) (hbase : base <= w.heap.size)
  (h : ∀ v' w', w'.ownsRow base e 1 v' (n + m) (cs k (l ++ r)) -> Below base w w' -> wpList P ops Q rest (a.put o.dst v') w') :
  wpList P ops Q (o :: rest) a w := by
 obtain ⟨i0, hi0, hz0, hz1, hz2⟩ := info_parts hi
 cases ao with
 | none =>
  have hc := hr.nil_ rfl
  subst hc
  have hm : m = 0 := by have := hr.fits; omega
  subst hm
  have hl : r = [] := List.length_eq_zero_iff.1 hr.len
  subst hl
  refine wpList_append_own_none hgd s x t ho base e i0 1 ht hi0 v n (cs k l) hs hown hx ?_
  refine h v w (by simpa using hown) (Below.refl _ _)
 | some ad =>
  refine wpList_append_own w hgd s x t ho base e i0 (.int k 0) 1 bytes ht hi0 hz0 hz1 hz2 rfl (by decide) v n (cs k l) hs hown ad m c (cs k r) hx (by rw [cs_length, hr.len]; omega) ?_ (cs_one k r) (by unfold maxLen; omega) ?_ hbase ?_
  ·intro j u hj
   obtain ⟨h1, rfl⟩ := cs_get hj
   obtain ⟨b, o', hao, _, hc⟩ := hr.rd.some (by omega)
   cases hao
   have := hc j h1
   unfold Addr.add
   by_cases hj0 : j = 0
   ·subst hj0; simpa using this
   ·rw [if_neg hj0]; exact this
  ·have : (n + m) * bytes <= 1000000 * 8 := Nat.mul_le_mul hsm hby
   omega
  ·intro v' w' h1 h2 _
   refine h v' w' ?_ (bel_of hown hbase h2)
   rw [cs_append]; exact h1
end Go.Proofs.YtbkfinjajkjhaaaGreatDoor
