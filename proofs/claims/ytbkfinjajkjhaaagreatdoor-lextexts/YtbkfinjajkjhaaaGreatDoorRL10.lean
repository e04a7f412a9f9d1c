import Derived.Test.YtbkfinjajkjhaaaGreatDoorLM2
import Derived.Shelf.Small.Utf8
import Derived.Shelf.Utf8.RuneCount
import Derived.Shelf.Unicode.ValidAny
import Derived.Test.YtbkfinjajkjhaaaGreatDoorProg
import Derived.Test.YtbkfinjajkjhaaaGreatDoorG2
import Derived.Test.YtbkfinjajkjhaaaGreatDoorW42
import Derived.Test.YtbkfinjajkjhaaaGreatDoorG4
import Derived.Maps.OwnSet
import Derived.DeepKeys4
import Derived.DeepKeys5
import Derived.Deep.DeepCutAuto
import Derived.Deep.CutBlock
import Derived.Lib.SmallJoins
set_option linter.unusedVariables false
set_option linter.unusedSimpArgs false
set_option maxRecDepth 100000
namespace Go.Proofs.YtbkfinjajkjhaaaGreatDoor
theorem txA_le : ∀ (n : Nat) (r : List Nat) (T : ByteArray) (c k : Nat) (x : ByteArray × Nat × Nat), txA n r T c k = some x -> k + 1 <= x.2.2 /\ x.2.2 <= k + r.length
 | 0, _, _, _, _, _, h => by cases h
 | n + 1, r, T, c, k, x, h => by
  unfold txA at h
  split at h
  ·cases h
  ·rename_i hr
   have hl : 0 < r.length := List.length_pos_iff.2 hr
   split at h
   ·cases h; show k + 1 <= k + 1 /\ k + 1 <= k + r.length; omega
   ·split at h
    ·cases h
    ·rename_i hz
     have := txA_le n _ _ _ _ x h
     have h2 := itemM_le hr
     rw [List.length_drop] at this
     omega
theorem textM_le {r : List Nat} {x : ByteArray × Nat} (hr : r ≠ []) (h : textM r 0 = some x) : 2 <= x.2 /\ x.2 <= r.length := by
 have hl : 0 < r.length := List.length_pos_iff.2 hr
 unfold textM txFin at h
 split at h
 ·cases h
 ·rename_i T c k he
  split at h
  ·cases h
   have := txA_le _ _ _ _ _ _ he
   rw [List.length_drop] at this
   show 2 <= k - 0 /\ k - 0 <= r.length
   have h1 : 0 + 1 + 1 <= k := this.1
   have h2 : k <= 0 + 1 + (r.length - (0 + 1)) := this.2
   omega
  ·cases h
theorem charM_le {r : List Nat} {x : Nat × Nat} (h : charM r = some x) : 2 <= x.2 /\ x.2 <= r.length := by
 unfold charM at h
 split at h
 ·cases h
 ·rename_i hl
  obtain ⟨n, _, rfl⟩ := Option.map_eq_some_iff.1 h
  have h1 : r.drop 2 ≠ [] := by intro e; have := congrArg List.length e; rw [List.length_drop] at this; simp at this; omega
  have h2 := runeL_le h1
  have h3 := wordN_le (r.drop (2 + (runeL (r.drop 2)).2))
  rw [List.length_drop] at h2 h3
  show 2 <= 2 + (runeL (r.drop 2)).2 + wordN (r.drop (2 + (runeL (r.drop 2)).2)) /\ 2 + (runeL (r.drop 2)).2 + wordN (r.drop (2 + (runeL (r.drop 2)).2)) <= r.length
  omega
theorem labM_le {r : List Nat} {x : Nat × Nat × Nat} (h : labM r = some x) : 2 <= x.2.2 /\ x.2.2 <= r.length := by
 unfold labM labF at h
 split at h
 ·cases h
 ·rename_i hn
  split at h
  ·cases h; show 2 <= _ + 2 /\ _ + 2 <= r.length; omega
  ·split at h
   ·cases h; show 2 <= _ + 2 /\ _ + 2 <= r.length; omega
   ·cases h
theorem truthM_len {t : List Nat} {v : Int} (h : truthM t = some v) : 2 <= t.length := by
 unfold truthM at h
 split at h
 ·rename_i h1; rcases h1 with rfl | rfl <;> simp
 ·split at h
  ·rename_i h1; rcases h1 with rfl | rfl <;> simp
  ·cases h
theorem hashM_le {r : List Nat} {x : Tkn} (h : hashM r = some x) : 1 <= x.2.2.2 /\ x.2.2.2 <= r.length := by
 unfold hashM at h
 split at h
 ·rename_i h1; have := hasB_len h1; cases h; simp at this ⊢; omega
 ·split at h
  ·rename_i h1; have := hasB_len h1; cases h; simp at this ⊢; omega
  ·split at h
   ·rename_i h1; have := hasB_len h1; cases h; simp at this ⊢; omega
   ·split at h
    ·obtain ⟨y, hy, rfl⟩ := Option.map_eq_some_iff.1 h
     have := charM_le hy
     show 1 <= y.2 /\ y.2 <= r.length
     omega
    ·split at h
     ·rename_i y hy
      cases h
      have := labM_le hy
      show 1 <= y.2.2 /\ y.2.2 <= r.length
      omega
     ·obtain ⟨y, hy, rfl⟩ := Option.map_eq_some_iff.1 h
      have h1 := truthM_len hy
      have h2 := wordN_le r
      rw [List.length_take] at h1
      show 1 <= wordN r /\ wordN r <= r.length
      omega
theorem otherM_le {r : List Nat} {x : Tkn} (h : otherM r = some x) : 1 <= x.2.2.2 /\ x.2.2.2 <= r.length := by
 have h2 := wordN_le r
 have key : r.take (wordN r) ≠ [] -> 1 <= wordN r := fun h => by
  rcases Nat.eq_zero_or_pos (wordN r) with e | e
  ·rw [e] at h; exact absurd rfl h
  ·exact e
 unfold otherM at h
 split at h
 ·rename_i h1; cases h; exact ⟨key (by rw [h1]; simp), h2⟩
 ·split at h
  ·rename_i h1
   have hne : r.take (wordN r) ≠ [] := by intro e; rw [e] at h1; cases h1
   split at h
   ·cases h
   ·cases h; exact ⟨key hne, h2⟩
  ·split at h
   ·rename_i h1
    rw [Bool.and_eq_true] at h1
    cases h
    exact ⟨key (of_decide_eq_true h1.2), h2⟩
   ·cases h
theorem tkM_le {r : List Nat} {x : Tkn} (hr : r ≠ []) (h : tkM r = some x) : 1 <= x.2.2.2 /\ x.2.2.2 <= r.length := by
 have hl : 0 < r.length := List.length_pos_iff.2 hr
 unfold tkM at h
 split at h
 ·cases h; exact ⟨Nat.le_refl _, hl⟩
 ·split at h
  ·cases h; exact ⟨Nat.le_refl _, hl⟩
  ·split at h
   ·split at h
    ·rename_i h1; have := hasB_len h1; cases h; simp at this ⊢; omega
    ·cases h; exact ⟨Nat.le_refl _, hl⟩
   ·split at h
    ·obtain ⟨y, hy, rfl⟩ := Option.map_eq_some_iff.1 h
     have := textM_le hr hy
     show 1 <= y.2 /\ y.2 <= r.length
     omega
    ·split at h
     ·exact hashM_le h
     ·exact otherM_le h
structure Tok where
 kind : Int
 num : Int
 text : ByteArray
 fr : Nat
 un : Nat
def toksA : Nat -> List Nat -> Nat -> List Tok × Option Nat
 | 0, _, _ => ([], none)
 | f + 1, l, k =>
  if (skL l k).2 = false then ([], some (skL l k).1)
  else if l.length <= (skL l k).1 then ([⟨0, 0, ⟨#[]⟩, l.length, l.length⟩], none)
  else match tkM (l.drop (skL l k).1) with
   | none => ([], some (skL l k).1)
   | some x => (⟨x.1, x.2.1, x.2.2.1, (skL l k).1, (skL l k).1 + x.2.2.2⟩ :: (toksA f l ((skL l k).1 + x.2.2.2)).1, (toksA f l ((skL l k).1 + x.2.2.2)).2)
def toksM (l : List Nat) : List Tok × Option Nat := toksA (l.length + 1) l 0
theorem toksA_wrong {f : Nat} {l : List Nat} {k : Nat} (h : (skL l k).2 = false) : toksA (f + 1) l k = ([], some (skL l k).1) := by
 unfold toksA; rw [if_pos h]
theorem toksA_end {f : Nat} {l : List Nat} {k : Nat} (h : (skL l k).2 = true) (h2 : l.length <= (skL l k).1) : toksA (f + 1) l k = ([⟨0, 0, ⟨#[]⟩, l.length, l.length⟩], none) := by
 unfold toksA; rw [if_neg (by rw [h]; simp), if_pos h2]
theorem toksA_none {f : Nat} {l : List Nat} {k : Nat} (h : (skL l k).2 = true) (h2 : ¬ l.length <= (skL l k).1) (h3 : tkM (l.drop (skL l k).1) = none) : toksA (f + 1) l k = ([], some (skL l k).1) := by
 unfold toksA; rw [if_neg (by rw [h]; simp), if_neg h2, h3]
theorem toksA_some {f : Nat} {l : List Nat} {k : Nat} {x : Tkn} (h : (skL l k).2 = true) (h2 : ¬ l.length <= (skL l k).1) (h3 : tkM (l.drop (skL l k).1) = some x) :
  toksA (f + 1) l k = (⟨x.1, x.2.1, x.2.2.1, (skL l k).1, (skL l k).1 + x.2.2.2⟩ :: (toksA f l ((skL l k).1 + x.2.2.2)).1, (toksA f l ((skL l k).1 + x.2.2.2)).2) := by
 conv => lhs; unfold toksA
 rw [if_neg (by rw [h]; simp), if_neg h2, h3]
def badA : Nat -> List Nat -> Nat -> Option Nat
 | 0, _, _ => none
 | f + 1, l, k => if l.length <= k then none else if (runeL (l.drop k)).2 = 0 then some k else badA f l (k + (runeL (l.drop k)).2)
def badM (l : List Nat) : Option Nat := badA l.length l 0
theorem badA_end {f : Nat} {l : List Nat} {k : Nat} (h : l.length <= k) : badA f l k = none := by
 cases f with
 | zero => rfl
 | succ f => unfold badA; rw [if_pos h]
theorem badA_stop {f : Nat} {l : List Nat} {k : Nat} (h : ¬ l.length <= k) (h2 : (runeL (l.drop k)).2 = 0) : badA (f + 1) l k = some k := by
 unfold badA; rw [if_neg h, if_pos h2]
theorem badA_go {f : Nat} {l : List Nat} {k : Nat} (h : ¬ l.length <= k) (h2 : (runeL (l.drop k)).2 ≠ 0) : badA (f + 1) l k = badA f l (k + (runeL (l.drop k)).2) := by
 conv => lhs; unfold badA
 rw [if_neg h, if_neg h2]
end Go.Proofs.YtbkfinjajkjhaaaGreatDoor
namespace Go.Proofs
open Go.Shelf
end Go.Proofs
namespace Go.Proofs.YtbkfinjajkjhaaaGreatDoor
open Go.RowKit
end Go.Proofs.YtbkfinjajkjhaaaGreatDoor
namespace Go.Proofs.YtbkfinjajkjhaaaGreatDoor
open Go.RowKit
instance : Inhabited Tok := ⟨⟨0, 0, ⟨#[]⟩, 0, 0⟩⟩
def tc (x : Tok) : List Value := [.int .i64 x.kind, .int .i64 x.num, .string x.text, .int .i64 x.fr, .int .i64 x.un]
def tcs (l : List Tok) : List Value := l.flatMap tc
theorem tcs_snoc (l : List Tok) (x : Tok) : tcs (l ++ [x]) = tcs l ++ tc x := by simp [tcs]
theorem tcs_get : ∀ {l : List Tok} {i j : Nat}, i < l.length -> j < 5 -> (tcs l)[i * 5 + j]? = (tc (l.getD i default))[j]?
 | [], _, _, h, _ => by simp at h
 | x :: l, 0, j, _, hj => by
  simp only [tcs, List.flatMap_cons, Nat.zero_mul, Nat.zero_add, List.getD_cons_zero]
  rw [List.getElem?_append_left (by simp [tc]; omega)]
 | x :: l, i + 1, j, h, hj => by
  have ih := tcs_get (l := l) (i := i) (j := j) (by simpa using h) hj
  simp only [tcs, List.flatMap_cons, List.getD_cons_succ] at *
  rw [List.getElem?_append_right (by simp [tc]; omega), <- ih]
  congr 1; simp [tc]; omega
def TOwn (base : Nat) (w : World) (v : Value) (l : List Tok) : Prop := w.ownsRow base 31 5 v l.length (tcs l)
theorem TOwn.nil (base : Nat) (w : World) : TOwn base w (.slice none 0 0) [] := World.ownsRow_nil _ _ _ _
theorem TOwn.below {base : Nat} {w w' : World} {v : Value} {l : List Tok} (h : TOwn base w v l) (hb : Below w.heap.size w w') : TOwn base w' v l := by
 refine ⟨h.1, ?_⟩
 rcases h.2 with h0 | ⟨g, cap, cur, h1, h2, h3, h4⟩
 ·exact .inl h0
 ·exact .inr ⟨g, cap, cur, h1, h2, (hb.block g (Array.getElem?_eq_some_iff.1 h3).1).trans h3, h4⟩
structure TRow (w : World) (ao : Option Addr) (n cap : Nat) (l : List Tok) : Prop where
 len : l.length = n
 fits : n <= cap
 most : cap <= maxLen
 nil_ : ao = none -> cap = 0
 rd : l = [] \/ ∃ b o, ao = some ⟨b, o, none⟩ /\ b < w.heap.size /\ ∀ i, i < l.length -> ∀ j, j < 5 -> w.cell? ⟨b, o + i * 5 + j, none⟩ = (tc (l.getD i default))[j]?
theorem TRow.below {w w' : World} {ao : Option Addr} {n cap : Nat} {l : List Tok} (h : TRow w ao n cap l) (hb : Below w.heap.size w w') : TRow w' ao n cap l := by
 refine ⟨h.len, h.fits, h.most, h.nil_, ?_⟩
 rcases h.rd with e | ⟨b, o, e, hl, hc⟩
 ·exact .inl e
 ·exact .inr ⟨b, o, e, Nat.lt_of_lt_of_le hl hb.size, fun i hi j hj => (hb.cell (p := ⟨b, o + i * 5 + j, none⟩) hl).trans (hc i hi j hj)⟩
theorem TRow.some {w : World} {ao : Option Addr} {n cap : Nat} {l : List Tok} (h : TRow w ao n cap l) (hl : 0 < n) :
  ∃ b o, ao = some ⟨b, o, none⟩ /\ b < w.heap.size /\ ∀ i, i < n -> ∀ j, j < 5 -> w.cell? ⟨b, o + i * 5 + j, none⟩ = (tc (l.getD i default))[j]? := by
 rcases h.rd with e | h2
 ·have := h.len; simp [e] at this; omega
 ·rw [h.len] at h2; exact h2
theorem TRow.nil (w : World) : TRow w none 0 0 [] := ⟨rfl, Nat.le_refl _, Nat.zero_le _, fun _ => rfl, .inl rfl⟩
theorem TOwn.row {base : Nat} {w : World} {v : Value} {l : List Tok} (h : TOwn base w v l) : ∃ ao cap, v = .slice ao l.length cap /\ TRow w ao l.length cap l := by
 rcases h.2 with ⟨rfl, h0⟩ | ⟨g, cap, cur, rfl, h2, h3, h4, h5, h6, h7⟩
 ·have : l = [] := List.length_eq_zero_iff.1 h0
  subst this
  exact ⟨none, 0, rfl, TRow.nil _⟩
 ·refine ⟨some ⟨g, 0, none⟩, cap, rfl, rfl, h4, h5, fun e => (by cases e), .inr ⟨g, 0, rfl, (Array.getElem?_eq_some_iff.1 h3).1, fun i hi j hj => ?_⟩⟩
  rw [blk_cell h3, <- tcs_get hi hj, <- h7, List.getElem?_take, if_pos (by omega), Array.getElem?_toList, Nat.zero_add]
theorem info_token : (Tryz.prog.info? 31).map (fun i => (i.zero, i.size, i.bytes)) = some (some (.agg #[.int .i64 0, .int .i64 0, .string ByteArray.empty, .int .i64 0, .int .i64 0]), 5, 48) := by kernel_rfl
theorem appt {P : Program} {w : World} {ops : Array Oper} {rest : List Oper} {o : Oper} {a : Act} {Q : Exit -> Act -> World -> Prop} (hgd : o.guard = none) (s x : Operand) (t : TypeId) (ho : o.op = .call { callee := .builtin .append, args := #[s, x], argTypes := #[t, t] })
  (base : Nat) (e : TypeId) (ht : P.underlying t = some (.slice e)) (hi : (P.info? e).map (fun i => (i.zero, i.size, i.bytes)) = some (some (.agg #[.int .i64 0, .int .i64 0, .string ByteArray.empty, .int .i64 0, .int .i64 0]), 5, 48))
  (v : Value) (n : Nat) (xs : List Value) (hs : a.eval s = v) (hown : w.ownsRow base e 5 v n xs)
  (g0 c : Nat) (d : Tok) (hx : a.eval x = .slice (some ⟨g0, 0, none⟩) 1 c) (hd : ∀ j u, (tc d)[j]? = some u -> w.cell? ⟨g0, j, none⟩ = some u) (hsm : n <= 1000000) (hbase : base <= w.heap.size)
  (h : ∀ g cap w', w'.ownsRow base e 5 (.slice (some ⟨g, 0, none⟩) (n + 1) cap) (n + 1) (xs ++ tc d) -> w.grownBy w' v.ownBlock -> (v.ownBlock = some g \/ g = w.heap.size) -> g < w'.heap.size -> wpList P ops Q rest (a.put o.dst (.slice (some ⟨g, 0, none⟩) (n + 1) cap)) w') :
  wpList P ops Q (o :: rest) a w := by
 obtain ⟨i0, hi0, hz0, hz1, hz2⟩ := info_parts hi
 refine wpList_append_lies w hgd s x t ho base e i0 _ 5 48 ht hi0 hz0 hz1 hz2 rfl (by decide) v n xs hs hown ⟨g0, 0, none⟩ 1 c (tc d) hx rfl ?_ ?_ (by decide) (by unfold maxLen; omega) (by omega) hbase w.heap.size rfl h
 ·intro j u hj
  have := hd j u hj
  unfold Addr.add
  by_cases hj0 : j = 0
  ·subst hj0; simpa using this
  ·rw [if_neg hj0]; simpa using this
 ·intro u hu; simp [tc] at hu; rcases hu with rfl | rfl | rfl | rfl | rfl <;> rfl
theorem tok_of {w : World} {g j : Nat} {u : Value} {d : Tok} {t : TypeId} (h : w.heap[g]? = some (.cells #[.int .i64 d.kind, .int .i64 d.num, .string d.text, .int .i64 d.fr, .int .i64 d.un] t (0, 0))) (hj : (tc d)[j]? = some u) : w.cell? ⟨g, j, none⟩ = some u := by
 rw [blk_cell h]; rw [<- hj]; simp [tc]
theorem TOwn.push {base : Nat} {w' : World} {l : List Tok} {d : Tok} {g cap : Nat} (h : w'.ownsRow base 31 5 (.slice (some ⟨g, 0, none⟩) (l.length + 1) cap) (l.length + 1) (tcs l ++ tc d)) : TOwn base w' (.slice (some ⟨g, 0, none⟩) (l.length + 1) cap) (l ++ [d]) := by
 unfold TOwn; rw [tcs_snoc, List.length_append, List.length_singleton]; exact h
end Go.Proofs.YtbkfinjajkjhaaaGreatDoor
namespace Go.Proofs.YtbkfinjajkjhaaaGreatDoor
open Go.RowKit
end Go.Proofs.YtbkfinjajkjhaaaGreatDoor
namespace Go.Proofs.YtbkfinjajkjhaaaGreatDoor
open Go.RowKit
def mayL : List Nat := [33, 36, 37, 38, 42, 47, 58, 60, 61, 62, 63, 94, 95, 126, 43, 45, 46, 64]
theorem mayB_plain {c : Nat} (h : (97 <= c /\ c <= 122) \/ (65 <= c /\ c <= 90) \/ (48 <= c /\ c <= 57) \/ 128 <= c) : mayB c = true := by
 unfold mayB
 simp only [Bool.or_eq_true, Bool.and_eq_true, decide_eq_true_eq]
 omega
theorem mayB_sign {c : Nat} (h : ¬ ((97 <= c /\ c <= 122) \/ (65 <= c /\ c <= 90) \/ (48 <= c /\ c <= 57) \/ 128 <= c)) : mayB c = mayL.contains c := by
 unfold mayB
 have : ((decide (97 <= c) && decide (c <= 122)) || (decide (65 <= c) && decide (c <= 90)) || (decide (48 <= c) && decide (c <= 57)) || decide (128 <= c)) = false := by
  rw [<- Bool.not_eq_true]
  simp only [Bool.or_eq_true, Bool.and_eq_true, decide_eq_true_eq]
  omega
 rw [this, Bool.false_or]; rfl
end Go.Proofs.YtbkfinjajkjhaaaGreatDoor
