/-
  How deeds that are handed in are opened, over this program.
-/
import Derived.Test.YthiniidgklilnaaRows
import Derived.Test.YthiniidgklilnaaV8
import Derived.ProofKit
import Derived.OpenShut
import Derived.ShutString
import Derived.ChangeOld
import Derived.Below
import Derived.Lib.SmallJoins
import Derived.Deep.Slices
set_option linter.unusedVariables false
set_option linter.unusedSimpArgs false
set_option maxRecDepth 100000
namespace Go.Proofs.Ythiniidgklilnaa
open Go.ChangeShapes Go.WideShapes Go.ChangeAt Go.RowKit Go.Joins Go.Deep

theorem own : ownKnob Try.prog.godebug = none := by kernel_rfl
theorem laidOut : laidOutB Try.prog = true := by kernel_rfl
theorem cellsDeed : Try.prog.cellsOf 36 = 8 := by kernel_rfl
theorem cellsI : Try.prog.cellsOf 3 = 1 := by kernel_rfl
theorem cellsW : Try.prog.cellsOf 34 = 1 := by kernel_rfl
theorem cellsWs : Try.prog.cellsOf 32 = 1 := by kernel_rfl
theorem cellsB : Try.prog.cellsOf 4 = 1 := by kernel_rfl

theorem addp (b o k : Nat) : Addr.add ⟨b, o, none⟩ k = ⟨b, o + k, none⟩ := by
  unfold Addr.add
  by_cases h : k = 0
  · subst h; simp
  · rw [if_neg h]
theorem plain_of {W : World} {a : Addr} {v : Value} (h : W.cell? a = some v) : ∃ b o, a = ⟨b, o, none⟩ ∧ b < W.heap.size := by
  obtain ⟨bb, o, sp⟩ := a
  have hsp : sp = none := by
    cases sp with
    | none => rfl
    | some k =>
      exfalso
      simp [World.cell?] at h
      split at h <;> simp_all
  subst hsp
  exact ⟨bb, o, rfl, World.block_lt_of_cell? W ⟨bb, o, none⟩ h⟩
theorem add0 (a : Addr) : a.add 0 = a := by simp [Addr.add]

section
variable {H : Type} {enc : TypeId × Value → H} {W : World} {base : Nat} {spare : Nat → Bool} {held : Bool}
theorem words_arg {fuel : Nat} {cs : List Value} {y : DataW H × List MemPlace} (h : DataW.trod enc Try.prog W base spare held fuel 32 cs = some y) : ∃ ao n cap l, cs = [.slice ao n cap] ∧ URow W ao n cap l := by
  rcases open_ints Try.underlying32 Try.underlying34 cellsW h with ⟨rfl, _⟩ | ⟨a, len, cap, zs, rfl, _, hl, hm, hz, _, hcell, hwz⟩
  · exact ⟨none, 0, 0, [], rfl, rfl, Nat.le_refl _, by unfold maxLen; omega, fun _ => rfl, fun _ e => (by cases e), .inl rfl⟩
  · have hzl : len ≤ zs.length := by rw [hz]; split <;> omega
    have hlen : (zs.take len).length = len := by rw [List.length_take, Nat.min_eq_left hzl]
    refine ⟨some a, len, cap, zs.take len, rfl, hlen, hl, hm, fun h => (by cases h), ?_, ?_⟩
    · intro z hz'
      have := bounds_u64 (hwz z (List.mem_of_mem_take hz'))
      unfold U64; omega
    · by_cases h0 : len = 0
      · subst h0; exact .inl (by simp)
      · have hc0 := hcell 0 (by omega)
        rw [add0] at hc0
        obtain ⟨bb, o, rfl, hlt⟩ := plain_of hc0
        refine .inr ⟨bb, o, rfl, hlt, fun i hi => ?_⟩
        rw [hlen] at hi
        have hci := hcell i (by omega)
        rw [addp] at hci
        rw [hci, List.getD_eq_getElem?_getD, List.getD_eq_getElem?_getD, List.getElem?_take, if_pos hi]

theorem deed_cells {n : Nat} {cs : List Value} {y : DataW H × List MemPlace} (hlen : cs.length = 8) (h : DataW.trod enc Try.prog W base spare held n 36 cs = some y) : ∃ (d : Dd) (s : Sl), cs = (DCells d s).toList ∧ DOk d ∧ URow W s.1 s.2.1 s.2.2 d.l := by
  obtain ⟨xs, m, hm, hxy, _, hxl, hf⟩ := DataW.trod_struct Try.underlying36 h
  match xs, hxl, cs, hlen with
  | [y0, y1, y2, y3, y4, y5, y6, y7], _, [v0, v1, v2, v3, v4, v5, v6, v7], _ =>
    have g0 := hf 0 _ rfl
    have g1 := hf 1 _ rfl
    have g2 := hf 2 _ rfl
    have g3 := hf 3 _ rfl
    have g4 := hf 4 _ rfl
    have g5 := hf 5 _ rfl
    have g6 := hf 6 _ rfl
    have g7 := hf 7 _ rfl
    simp [cellsI, cellsW, cellsWs, cellsB] at g0 g1 g2 g3 g4 g5 g6 g7
    obtain ⟨z0, q0, _, w0⟩ := DataW.trod_int Try.underlying3 g0
    obtain ⟨z1, q1, _, w1⟩ := DataW.trod_int Try.underlying3 g1
    obtain ⟨z2, q2, _, w2⟩ := DataW.trod_int Try.underlying3 g2
    obtain ⟨z3, q3, _, w3⟩ := DataW.trod_int Try.underlying3 g3
    obtain ⟨ao, nk, ck, l, q4, hI⟩ := words_arg g4
    obtain ⟨z5, q5, _, w5⟩ := DataW.trod_int Try.underlying34 g5
    obtain ⟨z6, q6, _, w6⟩ := DataW.trod_int Try.underlying34 g6
    obtain ⟨b7, q7, _⟩ := DataW.trod_bool Try.underlying4 g7
    cases q0; cases q1; cases q2; cases q3; cases q4; cases q5; cases q6; cases q7
    exact ⟨⟨z0, z1, z2, z3, l, z5, z6, b7⟩, (ao, nk, ck), rfl, ⟨bounds_i64 w0, bounds_i64 w1, bounds_i64 w2, bounds_i64 w3, (by have := bounds_u64 w5; show U64 z5; unfold U64; omega), (by have := bounds_u64 w6; show U64 z6; unfold U64; omega)⟩, hI⟩

theorem deeds_arg {fuel : Nat} {cs : List Value} {y : DataW H × List MemPlace} (h : DataW.trod enc Try.prog W base spare held fuel 22 cs = some y) : ∃ ao n cap l, cs = [.slice ao n cap] ∧ DRow W ao n cap l := by
  rcases open_slice Try.underlying22 h with ⟨rfl, _⟩ | ⟨a, len, cap, m, n, D, Pl, rfl, _, hl, hm, hmm, _, hx⟩
  · exact ⟨none, 0, 0, [], rfl, rfl, Nat.le_refl _, by unfold maxLen; omega, fun _ e => (by cases e), .inl rfl⟩
  · have hlm : len ≤ m := by rw [hmm]; split <;> omega
    by_cases h0 : len = 0
    · subst h0
      exact ⟨some a, 0, cap, [], rfl, rfl, hl, hm, fun _ e => (by cases e), .inl rfl⟩
    · have hp : ∃ b o, a = ⟨b, o, none⟩ ∧ b < W.heap.size := by
        obtain ⟨cs', h1, _⟩ := hx 0 (by omega)
        rw [cellsDeed, Nat.zero_mul, add0] at h1
        obtain ⟨_, hlen, hcell⟩ := World.cells?_some h1
        have := hcell 0 (by omega)
        rw [add0, List.getElem?_eq_getElem (by omega)] at this
        exact plain_of this
      obtain ⟨b, o, rfl, hb⟩ := hp
      have each : ∀ i, i < len → ∃ d : Dd, DIs W b (o + i * 8) d ∧ DOk d := fun i hi => by
        obtain ⟨cs', h1, h2⟩ := hx i (by omega)
        rw [cellsDeed, addp] at h1
        obtain ⟨_, hlen, hcell⟩ := World.cells?_some h1
        obtain ⟨d, s, rfl, hd, hU⟩ := deed_cells hlen h2
        have e : ∀ j, j < 8 → W.cell? ⟨b, o + i * 8 + j, none⟩ = (DCells d s).toList[j]? := fun j hj => by
          have := hcell j hj
          rw [addp] at this; exact this
        exact ⟨d, ⟨e 0 (by omega), e 1 (by omega), e 2 (by omega), e 3 (by omega), ⟨s.1, s.2.1, s.2.2, e 4 (by omega), hU⟩, e 5 (by omega), e 6 (by omega), e 7 (by omega)⟩, hd⟩
      obtain ⟨q, hq⟩ := choose_lt each
      have hget : ∀ i, i < len → ((List.range len).map q).getD i default = q i := fun i hi => by
        rw [List.getD_eq_getElem?_getD, List.getElem?_map, List.getElem?_range hi]; rfl
      refine ⟨some ⟨b, o, none⟩, len, cap, (List.range len).map q, rfl, by simp, hl, hm, ?_, .inr ⟨b, o, rfl, hb, fun i hi => ?_⟩⟩
      · intro d hd
        obtain ⟨i, hi, rfl⟩ := List.mem_map.1 hd
        exact (hq i (List.mem_range.1 hi)).2
      · have hi' : i < len := by simpa using hi
        rw [hget i hi']; exact (hq i hi').1
end
theorem deeds_in {H : Type} {enc : TypeId × Value → H} {W : World} {r : Reach} {b0 : Nat} {v : Value} {d : DataW H} {p : List MemPlace} {base : Nat} {spare : TypeId → Bool} {held : Bool}
    (hv : Value.okWide Try.prog W r b0 22 v) (h : DataW.Trod enc Try.prog W base spare held 22 v d p) : ∃ ao n cap l, v = .slice ao n cap ∧ DRow W ao n cap l := by
  obtain ⟨a, len, cp, rfl⟩ := okWide_slice Try.underlying22 hv
  obtain ⟨fuel, hf⟩ := h
  obtain ⟨ao, n, cap, l, e, hR⟩ := deeds_arg hf
  refine ⟨ao, n, cap, l, ?_, hR⟩
  simpa [Value.cells] using e
theorem deed_in {H : Type} {enc : TypeId × Value → H} {W : World} {r : Reach} {b0 : Nat} {v : Value} {d : DataW H} {p : List MemPlace} {base : Nat} {spare : TypeId → Bool} {held : Bool}
    (hv : Value.okWide Try.prog W r b0 36 v) (h : DataW.Trod enc Try.prog W base spare held 36 v d p) :
    ∃ (x : Dd) (s : Sl), v = .agg (DCells x s) ∧ DOk x ∧ URow W s.1 s.2.1 s.2.2 x.l := by
  obtain ⟨cs, rfl, hsz⟩ := okWide_struct Try.underlying36 hv
  obtain ⟨fuel, hf⟩ := h
  obtain ⟨x, s, e, hd, hU⟩ := deed_cells (cs := cs.toList) (by rw [Array.length_toList, hsz]; exact cellsDeed) (by simpa [Value.cells] using hf)
  exact ⟨x, s, by rw [← Array.toArray_toList (xs := cs), e], hd, hU⟩
end Go.Proofs.Ythiniidgklilnaa
