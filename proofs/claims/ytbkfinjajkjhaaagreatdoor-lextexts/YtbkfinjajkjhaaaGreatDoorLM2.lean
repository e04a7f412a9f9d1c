import Derived.Test.YtbkfinjajkjhaaaGreatDoorG4
import Derived.Test.YtbkfinjajkjhaaaGreatDoorG2
import Derived.Lib.MapLaws
import Derived.Laws.Cover4
set_option linter.unusedVariables false
set_option linter.unusedSimpArgs false
set_option maxRecDepth 100000
namespace Go.Proofs.YtbkfinjajkjhaaaGreatDoor
open Go.RowKit
theorem bstr_bs (s : ByteArray) : bstr (bs s) = s := by
 apply ByteArray.ext
 unfold bstr bs
 simp only [List.map_map]
 have : (UInt8.ofNat ∘ UInt8.toNat) = id := by funext x; simp
 rw [this, List.map_id]
def runeL (t : List Nat) : Nat × Nat := runeD (bstr t) 0
def letM (t : List Nat) : Option Nat :=
 if t = [] then none else if (runeL t).2 = t.length then some (runeL t).1
 else if t = [115, 112, 97, 99, 101] then some 32 else if t = [110, 101, 119, 108, 105, 110, 101] then some 10
 else if t = [116, 97, 98] then some 9 else if t = [114, 101, 116, 117, 114, 110] then some 13 else if t = [110, 117, 108, 108] then some 0
 else if t.getD 0 0 = 120 then numH (t.drop 1) else none
end Go.Proofs.YtbkfinjajkjhaaaGreatDoor
namespace Go.Proofs.YtbkfinjajkjhaaaGreatDoor
open Go.RowKit
theorem map_back (s : ByteArray) (i : Nat) : ((bs s).drop i).map UInt8.ofNat = s.data.toList.drop i := by
 unfold bs
 rw [<- List.map_drop, List.map_map]
 have : (UInt8.ofNat ∘ UInt8.toNat) = id := by funext x; simp
 rw [this, List.map_id]
theorem runeL_le {t : List Nat} (h : t ≠ []) : (runeL t).2 <= t.length := by
 unfold runeL runeD
 split
 ·simp
 ·have := Lib.decodeL_le (t.map UInt8.ofNat) (by simpa using h)
  rw [List.length_map] at this
  exact this
def charM (r : List Nat) : Option (Nat × Nat) :=
 if r.length <= 2 then none
 else (letM ((r.drop 2).take ((runeL (r.drop 2)).2 + wordN (r.drop (2 + (runeL (r.drop 2)).2))))).map (fun n => (n, 2 + (runeL (r.drop 2)).2 + wordN (r.drop (2 + (runeL (r.drop 2)).2))))
def tkV (k n : Int) (t : ByteArray) (f o : Int) : Value := .agg #[.int .i64 k, .int .i64 n, .string t, .int .i64 f, .int .i64 o]
def TkBox (g : Nat) (w : World) : Prop := w.heap[g]? = some (.cells #[.int .i64 0, .int .i64 0, .string ⟨#[]⟩, .int .i64 0, .int .i64 0] 31 (0, 0))
theorem TkBox.new (w : World) : TkBox w.heap.size (w.alloc (.cells #[.int .i64 0, .int .i64 0, .string ⟨#[]⟩, .int .i64 0, .int .i64 0] 31)) := blk_new _ _ _
theorem TkBox.on {g : Nat} {w w' : World} (h : TkBox g w) (hb : Below w.heap.size w w') : TkBox g w' := (hb.block g (Array.getElem?_eq_some_iff.1 h).1).trans h
theorem TkBox.facts {g : Nat} {w : World} (h : TkBox g w) : (w.cell? ⟨g, 0, none⟩ = some (.int .i64 0) /\ w.cell? ⟨g, 1, none⟩ = some (.int .i64 0) /\ w.cell? ⟨g, 2, none⟩ = some (.string ⟨#[]⟩) /\ w.cell? ⟨g, 3, none⟩ = some (.int .i64 0) /\ w.cell? ⟨g, 4, none⟩ = some (.int .i64 0)) /\ w.frozen? ⟨g, 0, none⟩ = false /\ w.frozen? ⟨g, 1, none⟩ = false /\ w.frozen? ⟨g, 2, none⟩ = false /\ w.frozen? ⟨g, 3, none⟩ = false /\ w.frozen? ⟨g, 4, none⟩ = false :=
 ⟨⟨blk_cell h 0, blk_cell h 1, blk_cell h 2, blk_cell h 3, blk_cell h 4⟩, blk_free h 0, blk_free h 1, blk_free h 2, blk_free h 3, blk_free h 4⟩
theorem below_set5 {B g : Nat} {w w' : World} (h : Below B w w') (hg : B <= g) (a b c d e : Value) : Below B w (((((w'.setCell ⟨g, 0, none⟩ a).setCell ⟨g, 1, none⟩ b).setCell ⟨g, 2, none⟩ c).setCell ⟨g, 3, none⟩ d).setCell ⟨g, 4, none⟩ e) :=
 ((((h.setCell (p := ⟨g, 0, none⟩) hg _).setCell (p := ⟨g, 1, none⟩) hg _).setCell (p := ⟨g, 2, none⟩) hg _).setCell (p := ⟨g, 3, none⟩) hg _).setCell (p := ⟨g, 4, none⟩) hg _
end Go.Proofs.YtbkfinjajkjhaaaGreatDoor
namespace Go.Proofs.YtbkfinjajkjhaaaGreatDoor
open Go.RowKit
def semiN : List Nat -> Nat
 | [] => 0
 | c :: r => if c = 59 then 0 else semiN r + 1
theorem semiN_le : ∀ r : List Nat, semiN r <= r.length
 | [] => by simp [semiN]
 | c :: r => by unfold semiN; split <;> simp; exact semiN_le r
def escM (r : List Nat) : Option (Nat × Nat) :=
 if r.length <= 1 then none
 else if r.getD 1 0 = 34 then some (34, 2) else if r.getD 1 0 = 92 then some (92, 2) else if r.getD 1 0 = 110 then some (10, 2) else if r.getD 1 0 = 116 then some (9, 2) else if r.getD 1 0 = 114 then some (13, 2)
 else if r.getD 1 0 = 120 then (if semiN (r.drop 2) < (r.drop 2).length then (numH ((r.drop 2).take (semiN (r.drop 2)))).map (fun n => (n, semiN (r.drop 2) + 3)) else none)
 else none
def escV (r : List Nat) : Nat × Nat := (escM r).getD (0, 0)
theorem numH_long {t : List Nat} (h : 6 < t.length) : numH t = none := by unfold numH; rw [if_neg (by omega)]
end Go.Proofs.YtbkfinjajkjhaaaGreatDoor
namespace Go.Proofs.YtbkfinjajkjhaaaGreatDoor
open Go.RowKit
theorem decode_max (s : ByteArray) (i : Nat) : (Utf8.decode s i).1 <= 1114111 := by
 rw [decode_eq]
 have h0 := byteAt_lt s i
 split
 ·show byteAt s i <= _; omega
 ·split
  ·split
   ·show byteAt s i % 32 * 64 + byteAt s (i + 1) % 64 <= _; omega
   ·show 65533 <= _; omega
  ·split
   ·split
    ·show byteAt s i % 16 * 4096 + byteAt s (i + 1) % 64 * 64 + byteAt s (i + 2) % 64 <= _; omega
    ·show 65533 <= _; omega
   ·split
    ·split
     ·rename_i hv
      rw [Bool.and_eq_true] at hv
      have := hv.2
      rw [<- letB_valid] at this
      unfold letB at this
      simp only [Bool.and_eq_true, decide_eq_true_eq] at this
      show byteAt s i % 8 * 262144 + byteAt s (i + 1) % 64 * 4096 + byteAt s (i + 2) % 64 * 64 + byteAt s (i + 3) % 64 <= _
      omega
     ·show 65533 <= _; omega
    ·show 65533 <= _; omega
theorem runeL_max (t : List Nat) : (runeL t).1 <= 1114111 := by
 unfold runeL runeD
 split
 ·simp
 ·exact decode_max _ _
theorem escV_max (r : List Nat) : (escV r).1 <= 1114111 := by
 unfold escV escM
 split
 ·simp
 ·repeat' split
  all_goals try simp
  cases h : numH ((r.drop 2).take (semiN (r.drop 2))) with
  | none => simp
  | some n =>
   unfold numH at h
   split at h
   ·rename_i hh
    cases h
    have := hh.2.2
    unfold letB at this
    simp only [Bool.and_eq_true, decide_eq_true_eq] at this
    simp
    omega
   ·cases h
theorem escV_le {r : List Nat} (hr : r ≠ []) : (escV r).2 <= r.length := by
 unfold escV escM
 split
 ·simp
 ·rename_i h1
  have h2 := semiN_le (r.drop 2)
  rw [List.length_drop] at h2
  repeat' split
  all_goals first | (simp; omega) | exact Nat.zero_le _ | skip
  cases h : numH ((r.drop 2).take (semiN (r.drop 2))) with
  | none => simp
  | some n =>
   rename_i hlt
   rw [List.length_drop] at hlt
   simp
   omega
def itemM (r : List Nat) : Nat × Nat := if r.getD 0 0 = 92 then escV r else runeL r
theorem itemM_le {r : List Nat} (hr : r ≠ []) : (itemM r).2 <= r.length := by
 unfold itemM; split
 ·exact escV_le hr
 ·exact runeL_le hr
def txA : Nat -> List Nat -> ByteArray -> Nat -> Nat -> Option (ByteArray × Nat × Nat)
 | 0, _, _, _, _ => none
 | n + 1, r, T, c, k => if r = [] then none else if r.getD 0 0 = 34 then some (T, c, k + 1)
  else if (itemM r).2 = 0 then none else txA n (r.drop (itemM r).2) (T ++ Utf8.encode ((itemM r).1 : Nat)) (c + 1) (k + (itemM r).2)
theorem txA_fuel : ∀ (n m : Nat) (r : List Nat) (T : ByteArray) (c k : Nat), r.length <= n -> r.length <= m -> txA n r T c k = txA m r T c k
 | 0, 0, _, _, _, _, _, _ => rfl
 | 0, m + 1, r, T, c, k, h, _ => by
  have : r = [] := List.length_eq_zero_iff.1 (by omega)
  unfold txA; rw [if_pos this]
 | n + 1, 0, r, T, c, k, _, h => by
  have : r = [] := List.length_eq_zero_iff.1 (by omega)
  unfold txA; rw [if_pos this]
 | n + 1, m + 1, r, T, c, k, h, h' => by
  unfold txA
  by_cases e : r = []
  ·rw [if_pos e, if_pos e]
  ·rw [if_neg e, if_neg e]
   by_cases e1 : r.getD 0 0 = 34
   ·rw [if_pos e1, if_pos e1]
   ·rw [if_neg e1, if_neg e1]
    by_cases e2 : (itemM r).2 = 0
    ·rw [if_pos e2, if_pos e2]
    ·rw [if_neg e2, if_neg e2]
     have hl : 0 < r.length := List.length_pos_iff.2 e
     exact txA_fuel n m _ _ _ _ (by rw [List.length_drop]; omega) (by rw [List.length_drop]; omega)
def txL (l : List Nat) (k : Nat) (T : ByteArray) (c : Nat) : Option (ByteArray × Nat × Nat) := txA (l.length - k) (l.drop k) T c k
theorem txL_end {l : List Nat} {k : Nat} {T : ByteArray} {c : Nat} (h : ¬ k < l.length) : txL l k T c = none := by
 unfold txL; rw [show l.length - k = 0 by omega]; rfl
theorem txL_go {l : List Nat} {k : Nat} {T : ByteArray} {c : Nat} (h : k < l.length) : txL l k T c = if l.getD k 0 = 34 then some (T, c, k + 1) else if (itemM (l.drop k)).2 = 0 then none else txL l (k + (itemM (l.drop k)).2) (T ++ Utf8.encode ((itemM (l.drop k)).1 : Nat)) (c + 1) := by
 unfold txL
 obtain ⟨m, hm⟩ : ∃ m, l.length - k = m + 1 := ⟨l.length - k - 1, by omega⟩
 have e : l.drop k ≠ [] := by intro e; have := congrArg List.length e; rw [List.length_drop] at this; simp at this; omega
 have hg : (l.drop k).getD 0 0 = l.getD k 0 := by rw [dropN_cons h]; rfl
 rw [hm]
 conv => lhs; unfold txA
 rw [if_neg e, hg, List.drop_drop]
 by_cases e2 : (itemM (l.drop k)).2 = 0
 ·rw [if_pos e2, if_pos e2]
 ·rw [if_neg e2, if_neg e2, txA_fuel m (l.length - (k + (itemM (l.drop k)).2)) _ _ _ _ (by rw [List.length_drop]; omega) (by rw [List.length_drop]; omega)]
def txFin (p : Nat) : Option (ByteArray × Nat × Nat) -> Option (ByteArray × Nat)
 | none => none
 | some (T, c, k) => if c <= 1024 then some (T, k - p) else none
def textM (l : List Nat) (p : Nat) : Option (ByteArray × Nat) := txFin p (txL l (p + 1) ⟨#[]⟩ 0)
def TxW (w wr : World) : Prop := TkBox w.heap.size wr /\ Below w.heap.size w wr
theorem TxW.on {w wr wx : World} (h : TxW w wr) (hb : Below wr.heap.size wr wx) : TxW w wx := ⟨h.1.on hb, Bt h.2 hb⟩
end Go.Proofs.YtbkfinjajkjhaaaGreatDoor
namespace Go.Proofs.YtbkfinjajkjhaaaGreatDoor
def dgF (b : Nat) : Nat -> Nat -> List Nat
 | 0, _ => []
 | f + 1, v => if v = 0 then [] else (v % b) :: dgF b f (v / b)
def dgs (b v : Nat) : List Nat := dgF b v v
theorem dgF_ok {b : Nat} (hb : 2 <= b) : ∀ f v, v <= f -> Dg b (dgF b f v) /\ Tr (dgF b f v) /\ val b (dgF b f v) = v /\ (v ≠ 0 -> dgF b f v ≠ [])
 | 0, v, h => by
  obtain rfl : v = 0 := by omega
  exact ⟨Dg.nil _, Tr.nil, rfl, fun h => absurd rfl h⟩
 | f + 1, v, h => by
  by_cases hv : v = 0
  ·subst hv; simp [dgF, val]; exact ⟨Dg.nil _, Tr.nil⟩
  ·have hlt : v / b < v := Nat.div_lt_self (by omega) (by omega)
   obtain ⟨h1, h2, h3, h4⟩ := dgF_ok hb f (v / b) (by omega)
   have e : dgF b (f + 1) v = (v % b) :: dgF b f (v / b) := by simp [dgF, hv]
   rw [e]
   refine ⟨fun x hx => ?_, .inr ?_, ?_, fun _ => by simp⟩
   ·rcases List.mem_cons.1 hx with rfl | hx
    ·exact Nat.mod_lt _ (by omega)
    ·exact h1 x hx
   ·by_cases h0 : v / b = 0
    ·have : dgF b f (v / b) = [] := by rw [h0]; cases f <;> simp [dgF]
     rw [this]
     have : v % b = v := Nat.mod_eq_of_lt (by rcases Nat.div_eq_zero_iff.1 h0 with h | h <;> omega)
     simp; omega
    ·have hne := h4 h0
     have := h2.resolve_left hne
     obtain ⟨n, hn⟩ : ∃ n, (dgF b f (v / b)).length = n + 1 := ⟨(dgF b f (v / b)).length - 1, by have := List.length_pos_iff.2 hne; omega⟩
     rw [List.length_cons, hn]
     rw [hn] at this
     simpa using this
   ·rw [val_cons, h3]; exact Nat.mod_add_div v b
def radL (b : Nat) (neg : Bool) (v : Nat) : List Nat := if v = 0 then [48] else (if neg then [45] else []) ++ ((dgs b v).map chr).reverse
theorem printed_rad {neg : Bool} {v b : Nat} {s : ByteArray} {en : Int} (hb : 2 <= b /\ b <= 36) (h : Printed neg v b s en) : s = bstr (radL b neg v) /\ en = 0 := by
 rcases h with ⟨h, _⟩ | ⟨_, he, D, d1, d2, d3, d4⟩
 ·exact absurd hb (by omega)
 ·refine ⟨?_, he⟩
  obtain ⟨h1, h2, h3, h4⟩ := dgF_ok hb.1 v v (Nat.le_refl _)
  have hD : D = dgs b v := digits_unique (show 1 < b by omega) d1 h1 d2 h2 (d3.trans h3.symm)
  have e : bs s = radL b neg v := by
   rw [d4, hD]; unfold radL
   by_cases hv : v = 0
   ·subst hv; rfl
   ·have hne : dgs b v ≠ [] := h4 hv
    rw [if_neg hv, if_neg hne]
  rw [<- e, bstr_bs]
def mayB (c : Nat) : Bool := (decide (97 <= c) && decide (c <= 122)) || (decide (65 <= c) && decide (c <= 90)) || (decide (48 <= c) && decide (c <= 57)) || decide (128 <= c) || [33, 36, 37, 38, 42, 47, 58, 60, 61, 62, 63, 94, 95, 126, 43, 45, 46, 64].contains c
abbrev Tkn := Int × Int × ByteArray × Nat
def otherM (r : List Nat) : Option Tkn :=
 if r.take (wordN r) = [46] then some (6, 0, ⟨#[]⟩, wordN r)
 else if digitsB 10 (cutS (r.take (wordN r))).2 then
  (if B32 ^ 40 <= hv 10 (cutS (r.take (wordN r))).2 then none else some (11, 0, bstr (radL 10 (cutS (r.take (wordN r))).1 (hv 10 (cutS (r.take (wordN r))).2)), wordN r))
 else if (r.take (wordN r)).all mayB && decide (r.take (wordN r) ≠ []) then some (14, 0, bstr (r.take (wordN r)), wordN r) else none
def dgA : Nat -> List Nat -> Nat -> Nat -> Nat × Nat
 | 0, _, n, k => (n, k)
 | f + 1, r, n, k => if r ≠ [] /\ 48 <= r.getD 0 0 /\ r.getD 0 0 <= 57 then dgA f (r.drop 1) (10 * n + (r.getD 0 0 - 48)) (k + 1) else (n, k)
def labF (r : List Nat) (x : Nat × Nat) : Option (Nat × Nat × Nat) :=
 if x.2 = 0 \/ r.length <= x.2 + 1 then none else if r.getD (x.2 + 1) 0 = 61 then some (8, x.1, x.2 + 2) else if r.getD (x.2 + 1) 0 = 35 then some (9, x.1, x.2 + 2) else none
def labM (r : List Nat) : Option (Nat × Nat × Nat) := labF r (dgA 9 (r.drop 1) 0 0)
def truthM (t : List Nat) : Option Int := if t = [35, 116] \/ t = [35, 116, 114, 117, 101] then some 1 else if t = [35, 102] \/ t = [35, 102, 97, 108, 115, 101] then some 0 else none
def hashM (r : List Nat) : Option Tkn :=
 if hasB r [35, 40] then some (3, 0, ⟨#[]⟩, 2)
 else if hasB r [35, 117, 56, 40] then some (4, 0, ⟨#[]⟩, 4)
 else if hasB r [35, 59] then some (7, 0, ⟨#[]⟩, 2)
 else if hasB r [35, 92] then (charM r).map (fun x => (12, (x.1 : Nat), ⟨#[]⟩, x.2))
 else match labM r with
  | some x => some ((x.1 : Nat), (x.2.1 : Nat), ⟨#[]⟩, x.2.2)
  | none => (truthM (r.take (wordN r))).map (fun n => (10, n, ⟨#[]⟩, wordN r))
def tkM (r : List Nat) : Option Tkn :=
 if r.getD 0 0 = 40 then some (1, 0, ⟨#[]⟩, 1)
 else if r.getD 0 0 = 41 then some (2, 0, ⟨#[]⟩, 1)
 else if r.getD 0 0 = 39 \/ r.getD 0 0 = 96 \/ r.getD 0 0 = 44 then (if hasB r [44, 64] then some (5, 0, bstr (r.take 2), 2) else some (5, 0, bstr (r.take 1), 1))
 else if r.getD 0 0 = 34 then (textM r 0).map (fun x => (13, 0, x.1, x.2))
 else if r.getD 0 0 = 35 then hashM r
 else otherM r
end Go.Proofs.YtbkfinjajkjhaaaGreatDoor
