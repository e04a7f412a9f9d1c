import Derived.Test.YtbkfinjajkjhaaaGreatDoorRL8
import Derived.Test.YtbkfinjajkjhaaaGreatDoorG2
import Derived.Shelf.Small.Utf8
import Derived.Shelf.Utf8.RuneCount
import Derived.Shelf.Unicode.ValidAny
import Derived.Test.YtbkfinjajkjhaaaGreatDoorProg
import Derived.Test.YtbkfinjajkjhaaaGreatDoorW41
import Derived.Test.YtbkfinjajkjhaaaGreatDoorRL6
import Derived.Maps.OwnSet
import Derived.DeepKeys4
import Derived.DeepKeys5
set_option linter.unusedVariables false
set_option linter.unusedSimpArgs false
set_option maxRecDepth 100000
namespace Go.Proofs.YtbkfinjajkjhaaaGreatDoor
def dgF (b : Nat) : Nat -> Nat -> List Nat
 | 0, _ => []
 | f + 1, v => if v = 0 then [] else (v % b) :: dgF b f (v / b)
def dgs (b v : Nat) : List Nat := dgF b v v
theorem zje {b : Nat} (hb : 2 <= b) : ∀ f v, v <= f -> Dg b (dgF b f v) /\ Tr (dgF b f v) /\ val b (dgF b f v) = v /\ (v ≠ 0 -> dgF b f v ≠ [])
 | 0, v, h => by
  obtain rfl : v = 0 := by omega
  exact ⟨Dg.nil _, Tr.nil, rfl, fun h => absurd rfl h⟩
 | f + 1, v, h => by
  by_cases hv : v = 0
  ·subst hv; simp [dgF, val]; exact ⟨Dg.nil _, Tr.nil⟩
  ·have hlt : v / b < v := Nat.div_lt_self (by omega) (by omega)
   obtain ⟨h1, h2, h3, h4⟩ := zje hb f (v / b) (by omega)
   have e : dgF b (f + 1) v = (v % b) :: dgF b f (v / b) := by simp [dgF, hv]
   rw [e]
   refine ⟨fun x hx => ?_, .inr ?_, ?_, fun _ => by simp⟩
   ·rcases List.mem_cons.1 hx with rfl | hx
    ·exact Nat.mod_lt _ (by omega)
    ·exact h1 x hx
   ·by_cases h0 : v / b = 0
    ·have : dgF b f (v / b) = [] := by rw [h0]; cases f <;> simp [dgF]
     rw [this]
     have : v % b = v := Nat.mod_eq_of_lt (by rcases Nat.div_eq_zero_iff.1 h0 with h | h <;> omega)
     simp; omega
    ·have hne := h4 h0
     have := h2.resolve_left hne
     obtain ⟨n, hn⟩ : ∃ n, (dgF b f (v / b)).length = n + 1 := ⟨(dgF b f (v / b)).length - 1, by have := List.length_pos_iff.2 hne; omega⟩
     rw [List.length_cons, hn]
     rw [hn] at this
     simpa using this
   ·rw [ys, h3]; exact Nat.mod_add_div v b
def radL (b : Nat) (neg : Bool) (v : Nat) : List Nat := if v = 0 then [48] else (if neg then [45] else []) ++ ((dgs b v).map chr).reverse
theorem vy {neg : Bool} {v b : Nat} {s : ByteArray} {en : Int} (hb : 2 <= b /\ b <= 36) (h : zeu neg v b s en) : s = bstr (radL b neg v) /\ en = 0 := by
 rcases h with ⟨h, _⟩ | ⟨_, he, D, d1, d2, d3, d4⟩
 ·exact absurd hb (by omega)
 ·refine ⟨?_, he⟩
  obtain ⟨h1, h2, h3, h4⟩ := zje hb.1 v v (Nat.le_refl _)
  have hD : D = dgs b v := qy (show 1 < b by omega) d1 h1 d2 h2 (d3.trans h3.symm)
  have e : bs s = radL b neg v := by
   rw [d4, hD]; unfold radL
   by_cases hv : v = 0
   ·subst hv; rfl
   ·have hne : dgs b v ≠ [] := h4 hv
    rw [if_neg hv, if_neg hne]
  rw [<- e, yz]
def mayB (c : Nat) : Bool := (decide (97 <= c) && decide (c <= 122)) || (decide (65 <= c) && decide (c <= 90)) || (decide (48 <= c) && decide (c <= 57)) || decide (128 <= c) || [33, 36, 37, 38, 42, 47, 58, 60, 61, 62, 63, 94, 95, 126, 43, 45, 46, 64].contains c
abbrev Tkn := Int × Int × ByteArray × Nat
def jc (r : List Nat) : Option Tkn :=
 if r.take (zd r) = [46] then some (6, 0, ⟨#[]⟩, zd r)
 else if zg 10 (cutS (r.take (zd r))).2 then
  (if B32 ^ 40 <= hv 10 (cutS (r.take (zd r))).2 then none else some (11, 0, bstr (radL 10 (cutS (r.take (zd r))).1 (hv 10 (cutS (r.take (zd r))).2)), zd r))
 else if (r.take (zd r)).all mayB && decide (r.take (zd r) ≠ []) then some (14, 0, bstr (r.take (zd r)), zd r) else none
def dgA : Nat -> List Nat -> Nat -> Nat -> Nat × Nat
 | 0, _, n, k => (n, k)
 | f + 1, r, n, k => if r ≠ [] /\ 48 <= r.getD 0 0 /\ r.getD 0 0 <= 57 then dgA f (r.drop 1) (10 * n + (r.getD 0 0 - 48)) (k + 1) else (n, k)
def labF (r : List Nat) (x : Nat × Nat) : Option (Nat × Nat × Nat) :=
 if x.2 = 0 \/ r.length <= x.2 + 1 then none else if r.getD (x.2 + 1) 0 = 61 then some (8, x.1, x.2 + 2) else if r.getD (x.2 + 1) 0 = 35 then some (9, x.1, x.2 + 2) else none
def labM (r : List Nat) : Option (Nat × Nat × Nat) := labF r (dgA 9 (r.drop 1) 0 0)
def jj (t : List Nat) : Option Int := if t = [35, 116] \/ t = [35, 116, 114, 117, 101] then some 1 else if t = [35, 102] \/ t = [35, 102, 97, 108, 115, 101] then some 0 else none
def yj (r : List Nat) : Option Tkn :=
 if hasB r [35, 40] then some (3, 0, ⟨#[]⟩, 2)
 else if hasB r [35, 117, 56, 40] then some (4, 0, ⟨#[]⟩, 4)
 else if hasB r [35, 59] then some (7, 0, ⟨#[]⟩, 2)
 else if hasB r [35, 92] then (qh r).map (fun x => (12, (x.1 : Nat), ⟨#[]⟩, x.2))
 else match labM r with
  | some x => some ((x.1 : Nat), (x.2.1 : Nat), ⟨#[]⟩, x.2.2)
  | none => (jj (r.take (zd r))).map (fun n => (10, n, ⟨#[]⟩, zd r))
def tkM (r : List Nat) : Option Tkn :=
 if r.getD 0 0 = 40 then some (1, 0, ⟨#[]⟩, 1)
 else if r.getD 0 0 = 41 then some (2, 0, ⟨#[]⟩, 1)
 else if r.getD 0 0 = 39 \/ r.getD 0 0 = 96 \/ r.getD 0 0 = 44 then (if hasB r [44, 64] then some (5, 0, bstr (r.take 2), 2) else some (5, 0, bstr (r.take 1), 1))
 else if r.getD 0 0 = 34 then (jf r 0).map (fun x => (13, 0, x.1, x.2))
 else if r.getD 0 0 = 35 then yj r
 else jc r
end Go.Proofs.YtbkfinjajkjhaaaGreatDoor
namespace Go.Proofs.YtbkfinjajkjhaaaGreatDoor
theorem zcb : ∀ (n : Nat) (r : List Nat) (k : Nat), k <= (skA n r k).1 /\ (skA n r k).1 <= k + r.length
 | 0, r, k => ⟨Nat.le_refl _, Nat.le_add_right _ _⟩
 | n + 1, r, k => by
  unfold skA
  split
  ·exact ⟨Nat.le_refl _, Nat.le_add_right _ _⟩
  ·rename_i hr
   have hl : 0 < r.length := List.length_pos_iff.2 hr
   split
   ·have := zcb n (r.drop 1) (k + 1)
    rw [List.length_drop] at this
    omega
   ·split
    ·have := zcb n (r.drop (zo r)) (k + zo r)
     have h2 := j7 r
     rw [List.length_drop] at this
     omega
    ·split
     ·split
      ·exact ⟨Nat.le_refl _, Nat.le_add_right _ _⟩
      ·rename_i e he
       have := zcb n (r.drop e) (k + e)
       have h2 := (k8 he).2
       rw [List.length_drop] at this
       omega
     ·exact ⟨Nat.le_refl _, Nat.le_add_right _ _⟩
theorem zln {l : List Nat} {k : Nat} (hk : k <= l.length) : k <= (skL l k).1 /\ (skL l k).1 <= l.length := by
 have := zcb (l.length - k) (l.drop k) k
 rw [List.length_drop] at this
 unfold skL
 omega
theorem zjf : ∀ (n : Nat) (r : List Nat) (T : ByteArray) (c k : Nat) (x : ByteArray × Nat × Nat), txA n r T c k = some x -> k + 1 <= x.2.2 /\ x.2.2 <= k + r.length
 | 0, _, _, _, _, _, h => by cases h
 | n + 1, r, T, c, k, x, h => by
  unfold txA at h
  split at h
  ·cases h
  ·rename_i hr
   have hl : 0 < r.length := List.length_pos_iff.2 hr
   split at h
   ·cases h; show k + 1 <= k + 1 /\ k + 1 <= k + r.length; omega
   ·split at h
    ·cases h
    ·rename_i hz
     have := zjf n _ _ _ _ x h
     have h2 := zby hr
     rw [List.length_drop] at this
     omega
theorem zhk {r : List Nat} {x : ByteArray × Nat} (hr : r ≠ []) (h : jf r 0 = some x) : 2 <= x.2 /\ x.2 <= r.length := by
 have hl : 0 < r.length := List.length_pos_iff.2 hr
 unfold jf fp at h
 split at h
 ·cases h
 ·rename_i T c k he
  split at h
  ·cases h
   have := zjf _ _ _ _ _ _ he
   rw [List.length_drop] at this
   show 2 <= k - 0 /\ k - 0 <= r.length
   have h1 : 0 + 1 + 1 <= k := this.1
   have h2 : k <= 0 + 1 + (r.length - (0 + 1)) := this.2
   omega
  ·cases h
theorem zhl {r : List Nat} {x : Nat × Nat} (h : qh r = some x) : 2 <= x.2 /\ x.2 <= r.length := by
 unfold qh at h
 split at h
 ·cases h
 ·rename_i hl
  obtain ⟨n, _, rfl⟩ := Option.map_eq_some_iff.1 h
  have h1 : r.drop 2 ≠ [] := by intro e; have := congrArg List.length e; rw [List.length_drop] at this; simp at this; omega
  have h2 := qz h1
  have h3 := zt (r.drop (2 + (zq (r.drop 2)).2))
  rw [List.length_drop] at h2 h3
  show 2 <= 2 + (zq (r.drop 2)).2 + zd (r.drop (2 + (zq (r.drop 2)).2)) /\ 2 + (zq (r.drop 2)).2 + zd (r.drop (2 + (zq (r.drop 2)).2)) <= r.length
  omega
theorem zkb {r : List Nat} {x : Nat × Nat × Nat} (h : labM r = some x) : 2 <= x.2.2 /\ x.2.2 <= r.length := by
 unfold labM labF at h
 split at h
 ·cases h
 ·rename_i hn
  split at h
  ·cases h; show 2 <= _ + 2 /\ _ + 2 <= r.length; omega
  ·split at h
   ·cases h; show 2 <= _ + 2 /\ _ + 2 <= r.length; omega
   ·cases h
theorem zde {t : List Nat} {v : Int} (h : jj t = some v) : 2 <= t.length := by
 unfold jj at h
 split at h
 ·rename_i h1; rcases h1 with rfl | rfl <;> simp
 ·split at h
  ·rename_i h1; rcases h1 with rfl | rfl <;> simp
  ·cases h
theorem zhm {r : List Nat} {x : Tkn} (h : yj r = some x) : 1 <= x.2.2.2 /\ x.2.2.2 <= r.length := by
 unfold yj at h
 split at h
 ·rename_i h1; have := zv h1; cases h; simp at this ⊢; omega
 ·split at h
  ·rename_i h1; have := zv h1; cases h; simp at this ⊢; omega
  ·split at h
   ·rename_i h1; have := zv h1; cases h; simp at this ⊢; omega
   ·split at h
    ·obtain ⟨y, hy, rfl⟩ := Option.map_eq_some_iff.1 h
     have := zhl hy
     show 1 <= y.2 /\ y.2 <= r.length
     omega
    ·split at h
     ·rename_i y hy
      cases h
      have := zkb hy
      show 1 <= y.2.2 /\ y.2.2 <= r.length
      omega
     ·obtain ⟨y, hy, rfl⟩ := Option.map_eq_some_iff.1 h
      have h1 := zde hy
      have h2 := zt r
      rw [List.length_take] at h1
      show 1 <= zd r /\ zd r <= r.length
      omega
theorem zff {r : List Nat} {x : Tkn} (h : jc r = some x) : 1 <= x.2.2.2 /\ x.2.2.2 <= r.length := by
 have h2 := zt r
 have key : r.take (zd r) ≠ [] -> 1 <= zd r := fun h => by
  rcases Nat.eq_zero_or_pos (zd r) with e | e
  ·rw [e] at h; exact absurd rfl h
  ·exact e
 unfold jc at h
 split at h
 ·rename_i h1; cases h; exact ⟨key (by rw [h1]; simp), h2⟩
 ·split at h
  ·rename_i h1
   have hne : r.take (zd r) ≠ [] := by intro e; rw [e] at h1; cases h1
   split at h
   ·cases h
   ·cases h; exact ⟨key hne, h2⟩
  ·split at h
   ·rename_i h1
    rw [Bool.and_eq_true] at h1
    cases h
    exact ⟨key (of_decide_eq_true h1.2), h2⟩
   ·cases h
theorem zfg {r : List Nat} {x : Tkn} (hr : r ≠ []) (h : tkM r = some x) : 1 <= x.2.2.2 /\ x.2.2.2 <= r.length := by
 have hl : 0 < r.length := List.length_pos_iff.2 hr
 unfold tkM at h
 split at h
 ·cases h; exact ⟨Nat.le_refl _, hl⟩
 ·split at h
  ·cases h; exact ⟨Nat.le_refl _, hl⟩
  ·split at h
   ·split at h
    ·rename_i h1; have := zv h1; cases h; simp at this ⊢; omega
    ·cases h; exact ⟨Nat.le_refl _, hl⟩
   ·split at h
    ·obtain ⟨y, hy, rfl⟩ := Option.map_eq_some_iff.1 h
     have := zhk hr hy
     show 1 <= y.2 /\ y.2 <= r.length
     omega
    ·split at h
     ·exact zhm h
     ·exact zff h
structure Tok where
 kind : Int
 num : Int
 text : ByteArray
 fr : Nat
 un : Nat
def zy : Nat -> List Nat -> Nat -> List Tok × Option Nat
 | 0, _, _ => ([], none)
 | f + 1, l, k =>
  if (skL l k).2 = false then ([], some (skL l k).1)
  else if l.length <= (skL l k).1 then ([⟨0, 0, ⟨#[]⟩, l.length, l.length⟩], none)
  else match tkM (l.drop (skL l k).1) with
   | none => ([], some (skL l k).1)
   | some x => (⟨x.1, x.2.1, x.2.2.1, (skL l k).1, (skL l k).1 + x.2.2.2⟩ :: (zy f l ((skL l k).1 + x.2.2.2)).1, (zy f l ((skL l k).1 + x.2.2.2)).2)
def jp (l : List Nat) : List Tok × Option Nat := zy (l.length + 1) l 0
theorem vz {f : Nat} {l : List Nat} {k : Nat} (h : (skL l k).2 = false) : zy (f + 1) l k = ([], some (skL l k).1) := by
 unfold zy; rw [if_pos h]
theorem fq {f : Nat} {l : List Nat} {k : Nat} (h : (skL l k).2 = true) (h2 : l.length <= (skL l k).1) : zy (f + 1) l k = ([⟨0, 0, ⟨#[]⟩, l.length, l.length⟩], none) := by
 unfold zy; rw [if_neg (by rw [h]; simp), if_pos h2]
theorem xw {f : Nat} {l : List Nat} {k : Nat} (h : (skL l k).2 = true) (h2 : ¬ l.length <= (skL l k).1) (h3 : tkM (l.drop (skL l k).1) = none) : zy (f + 1) l k = ([], some (skL l k).1) := by
 unfold zy; rw [if_neg (by rw [h]; simp), if_neg h2, h3]
theorem xx {f : Nat} {l : List Nat} {k : Nat} {x : Tkn} (h : (skL l k).2 = true) (h2 : ¬ l.length <= (skL l k).1) (h3 : tkM (l.drop (skL l k).1) = some x) :
  zy (f + 1) l k = (⟨x.1, x.2.1, x.2.2.1, (skL l k).1, (skL l k).1 + x.2.2.2⟩ :: (zy f l ((skL l k).1 + x.2.2.2)).1, (zy f l ((skL l k).1 + x.2.2.2)).2) := by
 conv => lhs; unfold zy
 rw [if_neg (by rw [h]; simp), if_neg h2, h3]
def badA : Nat -> List Nat -> Nat -> Option Nat
 | 0, _, _ => none
 | f + 1, l, k => if l.length <= k then none else if (zq (l.drop k)).2 = 0 then some k else badA f l (k + (zq (l.drop k)).2)
def badM (l : List Nat) : Option Nat := badA l.length l 0
theorem vb {f : Nat} {l : List Nat} {k : Nat} (h : l.length <= k) : badA f l k = none := by
 cases f with
 | zero => rfl
 | succ f => unfold badA; rw [if_pos h]
theorem q8 {f : Nat} {l : List Nat} {k : Nat} (h : ¬ l.length <= k) (h2 : (zq (l.drop k)).2 = 0) : badA (f + 1) l k = some k := by
 unfold badA; rw [if_neg h, if_pos h2]
theorem v6 {f : Nat} {l : List Nat} {k : Nat} (h : ¬ l.length <= k) (h2 : (zq (l.drop k)).2 ≠ 0) : badA (f + 1) l k = badA f l (k + (zq (l.drop k)).2) := by
 conv => lhs; unfold badA
 rw [if_neg h, if_neg h2]
end Go.Proofs.YtbkfinjajkjhaaaGreatDoor
namespace Go.Proofs
open Go.Shelf
end Go.Proofs
namespace Go.Proofs.YtbkfinjajkjhaaaGreatDoor
open Go.RowKit
end Go.Proofs.YtbkfinjajkjhaaaGreatDoor
