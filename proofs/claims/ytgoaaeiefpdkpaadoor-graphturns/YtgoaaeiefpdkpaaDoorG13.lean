/-
  Rows of numbers that are the call's own; the map of atoms.
-/
import Derived.Test.YtgoaaeiefpdkpaaDoorG12
import Derived.Maps.OwnSet
import Derived.DeepKeys4
import Derived.DeepKeys5
set_option linter.unusedVariables false
set_option linter.unusedSimpArgs false
namespace Go.Proofs.YtgoaaeiefpdkpaaDoor
open Go.RowKit

def cz (l : List Int) : List Value := l.map (Value.int .i64)
theorem cz_length (l : List Int) : (cz l).length = l.length := by simp [cz]
theorem cz_append (l r : List Int) : cz (l ++ r) = cz l ++ cz r := by simp [cz]
theorem cz_get {l : List Int} {j : Nat} (hj : j < l.length) : (cz l)[j]? = some (.int .i64 (l.getD j 0)) := by
  unfold cz
  rw [List.getElem?_map, List.getD_eq_getElem?_getD, List.getElem?_eq_getElem hj]; rfl
theorem cz_set (l : List Int) (i : Nat) (z : Int) : (cz l).set i (.int .i64 z) = cz (l.set i z) := by
  unfold cz; rw [List.map_set]

/-- Block g is just this row of numbers. -/
def Blk (w : World) (g : Nat) (l : List Int) : Prop := w.heap[g]? = some (.cells (cz l).toArray 3 (0, 0))
theorem Blk.lt {w : World} {g : Nat} {l : List Int} (h : Blk w g l) : g < w.heap.size := (Array.getElem?_eq_some_iff.1 h).1
theorem Blk.cell {w : World} {g : Nat} {l : List Int} (h : Blk w g l) {i : Nat} (hi : i < l.length) : w.cell? ⟨g, i, none⟩ = some (.int .i64 (l.getD i 0)) := by
  rw [blk_cell h]; simp only [List.getElem?_toArray]; exact cz_get hi
theorem Blk.free {w : World} {g : Nat} {l : List Int} (h : Blk w g l) (i : Nat) : w.frozen? ⟨g, i, none⟩ = false := blk_free h i
theorem Blk.set {w : World} {g : Nat} {l : List Int} (h : Blk w g l) (i : Nat) (z : Int) : Blk (w.setCell ⟨g, i, none⟩ (.int .i64 z)) g (l.set i z) := by
  have := blk_set (i := i) h (.int .i64 z)
  unfold Blk
  rw [this]
  congr 2
  rw [← cz_set]; simp

theorem made_cz (N : Nat) : madeCells #[Value.int .i64 0] N = (cz (List.replicate N 0)).toArray := by
  apply Array.ext
  · rw [size_madeCells]; simp [cz]
  · intro i h1 h2
    simp [madeCells, cz, Nat.mod_one]

theorem law : Maps.Keyed Tryd.prog 66 :=
  Maps.Keyed.of_law (deep_law_laid (m := 2) (by kernel_rfl) (by omega) (of_decide_eq_true (by kernel_rfl)) (by kernel_rfl) (by rw [Tryd.underlying66]))
theorem zeroInt64 (w : World) : (zeroValue 3).run Tryd.prog w = .ok (.int .i64 0) w := by kernel_rfl
/-- A key's value. -/
def KVal (k n : Int) (t : ByteArray) : Value := .agg #[.int .i64 k, .int .i64 n, .string t]
theorem cells_int : Tryd.prog.cellsOf 3 = 1 := by kernel_rfl
theorem cells_str : Tryd.prog.cellsOf 9 = 1 := by kernel_rfl
theorem cells_atom : Tryd.prog.cellsOf 66 = 3 := by kernel_rfl
theorem keyT : Tryd.prog.keyType 66 = true := by kernel_rfl
theorem key_lits (d : Nat) (k n : Int) (t : ByteArray) (hk : I64 k) (hn : I64 n) (ht : t.size ≤ maxLen) : Tryd.prog.keyLits (d + 2) 66 [.int .i64 k, .int .i64 n, .string t] = some [.int .i64 k, .int .i64 n, .string t.data.toList] := by
  have w1 : (Lit.int .i64 k).wf = true := WalkArith.wf_i64 (by unfold I64 at hk; omega)
  have w2 : (Lit.int .i64 n).wf = true := WalkArith.wf_i64 (by unfold I64 at hn; omega)
  simp [Program.keyLits, Tryd.underlying66, Tryd.underlying3, Tryd.underlying9, cells_int, cells_str, cells_atom, w1, w2, ht]
theorem key_of (k n : Int) (t : ByteArray) (hk : I64 k) (hn : I64 n) (ht : t.size ≤ maxLen) : ∃ kl, keyOf Tryd.prog 66 (KVal k n t) = some kl := by
  unfold keyOf KVal
  rw [Tryd.underlying66]
  obtain ⟨d, hd⟩ : ∃ d, Tryd.prog.types.size = d + 1 := ⟨Tryd.prog.types.size - 1, by have : 0 < Tryd.prog.types.size := of_decide_eq_true (by kernel_rfl); omega⟩
  have hf : (Value.agg #[.int .i64 k, .int .i64 n, .string t]).formed Tryd.prog 66 = true := by simp [Value.formed, Tryd.underlying66, cells_atom]
  simp only [keyT, hf, Bool.and_self, if_true, hd]
  have := key_lits d k n t hk hn ht
  have e : (Value.agg #[.int .i64 k, .int .i64 n, .string t]).cells.toList = [.int .i64 k, .int .i64 n, .string t] := rfl
  rw [e, show d + 1 + 1 = d + 2 from rfl, this]
  exact ⟨_, rfl⟩
theorem key_inj {k n k' n' : Int} {t t' : ByteArray} {kl : Lit} (h : keyOf Tryd.prog 66 (KVal k n t) = some kl) (h' : keyOf Tryd.prog 66 (KVal k' n' t') = some kl) : k = k' ∧ n = n' ∧ t = t' := by
  have := law.inj h h'
  unfold KVal at this
  simp at this
  exact this

end Go.Proofs.YtgoaaeiefpdkpaaDoor
