/-
  How objects that are handed in are opened, over this program.
-/
import Derived.Test.YthgkonjglappjaaRows
import Derived.Test.YthgkonjglappjaaU5
import Derived.ProofKit
import Derived.OpenShut
import Derived.ShutString
import Derived.ChangeOld
import Derived.Below
import Derived.Lib.SmallJoins
import Derived.Deep.Slices
set_option linter.unusedVariables false
set_option linter.unusedSimpArgs false
set_option maxRecDepth 100000
namespace Go.Proofs.Ythgkonjglappjaa
open Go.ChangeShapes Go.WideShapes Go.ChangeAt Go.RowKit Go.Joins Go.Deep

theorem own : ownKnob Try.prog.godebug = none := by kernel_rfl
theorem laidOut : laidOutB Try.prog = true := by kernel_rfl
theorem cellsFd : Try.prog.cellsOf 64 = 3 := by kernel_rfl
theorem cellsOj : Try.prog.cellsOf 56 = 2 := by kernel_rfl
theorem cellsFs : Try.prog.cellsOf 23 = 1 := by kernel_rfl
theorem cellsI : Try.prog.cellsOf 3 = 1 := by kernel_rfl
theorem cellsW : Try.prog.cellsOf 46 = 1 := by kernel_rfl
theorem cellsB : Try.prog.cellsOf 4 = 1 := by kernel_rfl

theorem addp (b o k : Nat) : Addr.add ⟨b, o, none⟩ k = ⟨b, o + k, none⟩ := by
  unfold Addr.add
  by_cases h : k = 0
  · subst h; simp
  · rw [if_neg h]
theorem plain_of {W : World} {a : Addr} {v : Value} (h : W.cell? a = some v) : ∃ b o, a = ⟨b, o, none⟩ ∧ b < W.heap.size := by
  obtain ⟨bb, o, sp⟩ := a
  have hsp : sp = none := by
    cases sp with
    | none => rfl
    | some k =>
      exfalso
      simp [World.cell?] at h
      split at h <;> simp_all
  subst hsp
  exact ⟨bb, o, rfl, World.block_lt_of_cell? W ⟨bb, o, none⟩ h⟩
theorem add0 (a : Addr) : a.add 0 = a := by simp [Addr.add]

section
variable {H : Type} {enc : TypeId × Value → H} {W : World} {base : Nat} {spare : Nat → Bool} {held : Bool}
theorem field_cells {n : Nat} {cs : List Value} {y : DataW H × List MemPlace} (hlen : cs.length = 3) (h : DataW.trod enc Try.prog W base spare held n 64 cs = some y) : ∃ (f : Fd), cs = [.bool f.is, .int .i64 f.to, .int .u64 f.w] ∧ FOk f := by
  obtain ⟨xs, m, hm, hxy, _, hxl, hf⟩ := DataW.trod_struct Try.underlying64 h
  match xs, hxl, cs, hlen with
  | [y0, y1, y2], _, [v0, v1, v2], _ =>
    have g0 := hf 0 _ rfl
    have g1 := hf 1 _ rfl
    have g2 := hf 2 _ rfl
    simp [cellsI, cellsW, cellsB] at g0 g1 g2
    obtain ⟨b0, q0, _⟩ := DataW.trod_bool Try.underlying4 g0
    obtain ⟨z1, q1, _, w1⟩ := DataW.trod_int Try.underlying3 g1
    obtain ⟨z2, q2, _, w2⟩ := DataW.trod_int Try.underlying46 g2
    cases q0; cases q1; cases q2
    exact ⟨⟨b0, z1, z2⟩, rfl, ⟨bounds_i64 w1, (by have := bounds_u64 w2; show U64 z2; unfold U64; omega)⟩⟩
theorem fields_arg {fuel : Nat} {cs : List Value} {y : DataW H × List MemPlace} (h : DataW.trod enc Try.prog W base spare held fuel 23 cs = some y) : ∃ ao n cap l, cs = [.slice ao n cap] ∧ FRow W ao n cap l := by
  rcases open_slice Try.underlying23 h with ⟨rfl, _⟩ | ⟨a, len, cap, m, n, D, Pl, rfl, _, hl, hm, hmm, _, hx⟩
  · exact ⟨none, 0, 0, [], rfl, rfl, Nat.le_refl _, by unfold maxLen; omega, fun _ => rfl, fun _ e => (by cases e), .inl rfl⟩
  · have hlm : len ≤ m := by rw [hmm]; split <;> omega
    by_cases h0 : len = 0
    · subst h0
      exact ⟨some a, 0, cap, [], rfl, rfl, hl, hm, fun e => (by cases e), fun _ e => (by cases e), .inl rfl⟩
    · have hp : ∃ b o, a = ⟨b, o, none⟩ ∧ b < W.heap.size := by
        obtain ⟨cs', h1, _⟩ := hx 0 (by omega)
        rw [cellsFd, Nat.zero_mul, add0] at h1
        obtain ⟨_, hlen, hcell⟩ := World.cells?_some h1
        have := hcell 0 (by omega)
        rw [add0, List.getElem?_eq_getElem (by omega)] at this
        exact plain_of this
      obtain ⟨b, o, rfl, hb⟩ := hp
      have each : ∀ i, i < len → ∃ d : Fd, FIs W b (o + i * 3) d ∧ FOk d := fun i hi => by
        obtain ⟨cs', h1, h2⟩ := hx i (by omega)
        rw [cellsFd, addp] at h1
        obtain ⟨_, hlen, hcell⟩ := World.cells?_some h1
        obtain ⟨d, rfl, hd⟩ := field_cells hlen h2
        have e : ∀ j, j < 3 → W.cell? ⟨b, o + i * 3 + j, none⟩ = [Value.bool d.is, .int .i64 d.to, .int .u64 d.w][j]? := fun j hj => by
          have := hcell j hj
          rw [addp] at this; exact this
        exact ⟨d, ⟨e 0 (by omega), e 1 (by omega), e 2 (by omega)⟩, hd⟩
      obtain ⟨q, hq⟩ := choose_lt each
      have hget : ∀ i, i < len → ((List.range len).map q).getD i default = q i := fun i hi => by
        rw [List.getD_eq_getElem?_getD, List.getElem?_map, List.getElem?_range hi]; rfl
      refine ⟨some ⟨b, o, none⟩, len, cap, (List.range len).map q, rfl, by simp, hl, hm, fun e => (by cases e), ?_, .inr ⟨b, o, rfl, hb, fun i hi => ?_⟩⟩
      · intro d hd
        obtain ⟨i, hi, rfl⟩ := List.mem_map.1 hd
        exact (hq i (List.mem_range.1 hi)).2
      · have hi' : i < len := by simpa using hi
        rw [hget i hi']; exact (hq i hi').1
theorem obj_cells {n : Nat} {cs : List Value} {y : DataW H × List MemPlace} (hlen : cs.length = 2) (h : DataW.trod enc Try.prog W base spare held n 56 cs = some y) : ∃ (x : Oj) (fa : Option Addr) (fn fc : Nat), cs = [.int .i64 x.kind, .slice fa fn fc] ∧ Z64 x.kind ∧ FRow W fa fn fc x.l := by
  obtain ⟨xs, m, hm, hxy, _, hxl, hf⟩ := DataW.trod_struct Try.underlying56 h
  match xs, hxl, cs, hlen with
  | [y0, y1], _, [v0, v1], _ =>
    have g0 := hf 0 _ rfl
    have g1 := hf 1 _ rfl
    simp [cellsI, cellsFs] at g0 g1
    obtain ⟨z0, q0, _, w0⟩ := DataW.trod_int Try.underlying3 g0
    obtain ⟨fa, fn, fc, l, q1, hF⟩ := fields_arg g1
    cases q0; cases q1
    exact ⟨⟨z0, l⟩, fa, fn, fc, rfl, bounds_i64 w0, hF⟩
theorem objs_arg {fuel : Nat} {cs : List Value} {y : DataW H × List MemPlace} (h : DataW.trod enc Try.prog W base spare held fuel 22 cs = some y) : ∃ ao n cap l, cs = [.slice ao n cap] ∧ ORow W ao n cap l := by
  rcases open_slice Try.underlying22 h with ⟨rfl, _⟩ | ⟨a, len, cap, m, n, D, Pl, rfl, _, hl, hm, hmm, _, hx⟩
  · exact ⟨none, 0, 0, [], rfl, rfl, Nat.le_refl _, by unfold maxLen; omega, fun _ e => (by cases e), .inl rfl⟩
  · have hlm : len ≤ m := by rw [hmm]; split <;> omega
    by_cases h0 : len = 0
    · subst h0
      exact ⟨some a, 0, cap, [], rfl, rfl, hl, hm, fun _ e => (by cases e), .inl rfl⟩
    · have hp : ∃ b o, a = ⟨b, o, none⟩ ∧ b < W.heap.size := by
        obtain ⟨cs', h1, _⟩ := hx 0 (by omega)
        rw [cellsOj, Nat.zero_mul, add0] at h1
        obtain ⟨_, hlen, hcell⟩ := World.cells?_some h1
        have := hcell 0 (by omega)
        rw [add0, List.getElem?_eq_getElem (by omega)] at this
        exact plain_of this
      obtain ⟨b, o, rfl, hb⟩ := hp
      have each : ∀ i, i < len → ∃ d : Oj, OIs W b (o + i * 2) d ∧ Z64 d.kind := fun i hi => by
        obtain ⟨cs', h1, h2⟩ := hx i (by omega)
        rw [cellsOj, addp] at h1
        obtain ⟨_, hlen, hcell⟩ := World.cells?_some h1
        obtain ⟨d, fa, fn, fc, rfl, hd, hF⟩ := obj_cells hlen h2
        have e : ∀ j, j < 2 → W.cell? ⟨b, o + i * 2 + j, none⟩ = [Value.int .i64 d.kind, .slice fa fn fc][j]? := fun j hj => by
          have := hcell j hj
          rw [addp] at this; exact this
        exact ⟨d, ⟨e 0 (by omega), fa, fn, fc, e 1 (by omega), hF⟩, hd⟩
      obtain ⟨q, hq⟩ := choose_lt each
      have hget : ∀ i, i < len → ((List.range len).map q).getD i default = q i := fun i hi => by
        rw [List.getD_eq_getElem?_getD, List.getElem?_map, List.getElem?_range hi]; rfl
      refine ⟨some ⟨b, o, none⟩, len, cap, (List.range len).map q, rfl, by simp, hl, hm, ?_, .inr ⟨b, o, rfl, hb, fun i hi => ?_⟩⟩
      · intro d hd
        obtain ⟨i, hi, rfl⟩ := List.mem_map.1 hd
        exact (hq i (List.mem_range.1 hi)).2
      · have hi' : i < len := by simpa using hi
        rw [hget i hi']; exact (hq i hi').1
end
theorem objs_in {H : Type} {enc : TypeId × Value → H} {W : World} {r : Reach} {b0 : Nat} {v : Value} {d : DataW H} {p : List MemPlace} {base : Nat} {spare : TypeId → Bool} {held : Bool}
    (hv : Value.okWide Try.prog W r b0 22 v) (h : DataW.Trod enc Try.prog W base spare held 22 v d p) : ∃ ao n cap l, v = .slice ao n cap ∧ ORow W ao n cap l := by
  obtain ⟨a, len, cp, rfl⟩ := okWide_slice Try.underlying22 hv
  obtain ⟨fuel, hf⟩ := h
  obtain ⟨ao, n, cap, l, e, hR⟩ := objs_arg hf
  refine ⟨ao, n, cap, l, ?_, hR⟩
  simpa [Value.cells] using e
theorem fields_in {H : Type} {enc : TypeId × Value → H} {W : World} {r : Reach} {b0 : Nat} {v : Value} {d : DataW H} {p : List MemPlace} {base : Nat} {spare : TypeId → Bool} {held : Bool}
    (hv : Value.okWide Try.prog W r b0 23 v) (h : DataW.Trod enc Try.prog W base spare held 23 v d p) : ∃ ao n cap l, v = .slice ao n cap ∧ FRow W ao n cap l := by
  obtain ⟨a, len, cp, rfl⟩ := okWide_slice Try.underlying23 hv
  obtain ⟨fuel, hf⟩ := h
  obtain ⟨ao, n, cap, l, e, hR⟩ := fields_arg hf
  refine ⟨ao, n, cap, l, ?_, hR⟩
  simpa [Value.cells] using e
end Go.Proofs.Ythgkonjglappjaa
