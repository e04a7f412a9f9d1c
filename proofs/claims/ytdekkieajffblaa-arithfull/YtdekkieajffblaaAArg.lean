/-
  How integers, and asks, that are handed in are opened, over this program.
-/
import Derived.Test.YtdekkieajffblaaArg
import Derived.Test.YtdekkieajffblaaAW1
import Derived.Deep.Slices
set_option linter.unusedVariables false
set_option linter.unusedSimpArgs false
set_option maxRecDepth 100000
namespace Go.Proofs.Ytdekkieajffblaa
open Go.ChangeShapes Go.WideShapes Go.ChangeAt Go.RowKit Go.Joins Go.Deep

theorem acellsB : Try.prog.cellsOf 4 = 1 := by kernel_rfl
theorem acellsI : Try.prog.cellsOf 3 = 1 := by kernel_rfl
theorem acellsW : Try.prog.cellsOf 39 = 1 := by kernel_rfl
theorem acellsU : Try.prog.cellsOf 22 = 1 := by kernel_rfl
theorem aaddp (b o k : Nat) : Addr.add ⟨b, o, none⟩ k = ⟨b, o + k, none⟩ := by
  unfold Addr.add
  by_cases h : k = 0
  · subst h; simp
  · rw [if_neg h]
theorem aplain {W : World} {a : Addr} {v : Value} (h : W.cell? a = some v) : ∃ b o, a = ⟨b, o, none⟩ ∧ b < W.heap.size := by
  obtain ⟨bb, o, sp⟩ := a
  have hsp : sp = none := by
    cases sp with
    | none => rfl
    | some k =>
      exfalso
      simp [World.cell?] at h
      split at h <;> simp_all
  subst hsp
  exact ⟨bb, o, rfl, World.block_lt_of_cell? W ⟨bb, o, none⟩ h⟩
theorem aadd0 (a : Addr) : a.add 0 = a := by simp [Addr.add]
section
variable {H : Type} {enc : TypeId × Value → H} {W : World} {base : Nat} {spare : Nat → Bool} {held : Bool}
theorem digs_arg {fuel : Nat} {cs : List Value} {y : DataW H × List MemPlace} (h : DataW.trod enc Try.prog W base spare held fuel 22 cs = some y) : ∃ ao n cap l, cs = [.slice ao n cap] ∧ Row .u32 B32 W ao n cap l := by
  rcases open_ints Try.underlying22 Try.underlying62 (by kernel_rfl) h with ⟨hcs, _⟩ | ⟨a, len, cap, zs, hcs, _, hl, hm, hz, _, hcell, hwz⟩
  · cases hcs
    exact ⟨none, 0, 0, [], rfl, Row.nil _ _ _ _⟩
  · cases hcs
    have hzl : len ≤ zs.length := by rw [hz]; split <;> omega
    have hlen : ((zs.take len).map Int.toNat).length = len := by rw [List.length_map, List.length_take, Nat.min_eq_left hzl]
    refine ⟨some a, len, cap, (zs.take len).map Int.toNat, rfl, hlen, hl, hm, fun h => (by cases h), ?_, ?_⟩
    · intro x hx
      obtain ⟨z, hz', rfl⟩ := List.mem_map.1 hx
      have := wf_u32 (hwz z (List.mem_of_mem_take hz'))
      unfold B32; omega
    · by_cases h0 : len = 0
      · subst h0; exact .inl (by simp)
      · have hc0 := hcell 0 (by omega)
        obtain ⟨bb, o, sp⟩ := a
        have hsp : sp = none := by
          cases sp with
          | none => rfl
          | some k =>
            exfalso
            simp [Addr.add, World.cell?] at hc0
            split at hc0 <;> simp_all
        subst hsp
        have hlt : bb < W.heap.size := World.block_lt_of_cell? W ⟨bb, o, none⟩ (by simpa [Addr.add] using hc0)
        refine .inr ⟨bb, o, rfl, hlt, fun i hi => ?_⟩
        rw [hlen] at hi
        have hci := hcell i (by omega)
        have h1 : W.cell? ⟨bb, o + i, none⟩ = W.cell? (Addr.add ⟨bb, o, none⟩ i) := by
          unfold Addr.add
          by_cases hi0 : i = 0
          · subst hi0; simp
          · rw [if_neg hi0]
        rw [h1, hci]
        have h2 : zs.getD i 0 = (((zs.take len).map Int.toNat).getD i 0 : Nat) := by
          rw [List.getD_eq_getElem?_getD, List.getD_eq_getElem?_getD, List.getElem?_map, List.getElem?_take, if_pos hi, List.getElem?_eq_getElem (by omega)]
          have := wf_u32 (hwz zs[i] (List.getElem_mem _))
          simp only [Option.map_some, Option.getD_some]
          omega
        rw [h2]
theorem zat_arg {n : Nat} {cs : List Value} {y : DataW H × List MemPlace} {b k : Nat} (hc : W.cells? base ⟨b, k, none⟩ 2 = some cs) (h : DataW.trod enc Try.prog W base spare held n 24 cs = some y) : ∃ x, ZAt W b k x := by
  obtain ⟨_, hlen, hcell⟩ := World.cells?_some hc
  obtain ⟨xs, m, hm, hxy, _, hxl, hf⟩ := DataW.trod_struct Try.underlying24 h
  match xs, hxl, cs, hlen with
  | [y0, y1], _, [v0, v1], _ =>
    have g0 := hf 0 _ rfl
    have g1 := hf 1 _ rfl
    simp [acellsB, acellsU] at g0 g1
    have e0 := hcell 0 (by omega)
    have e1 := hcell 1 (by omega)
    rw [aaddp] at e0 e1
    obtain ⟨z0, q0, _⟩ := DataW.trod_bool Try.underlying4 g0
    obtain ⟨ao, nk, ck, l, q3, hI⟩ := digs_arg g1
    cases q0; cases q3
    exact ⟨(z0, l), by simpa using e0, ao, nk, ck, by simpa using e1, hI⟩
theorem zs_arg {fuel : Nat} {cs : List Value} {y : DataW H × List MemPlace} (h : DataW.trod enc Try.prog W base spare held fuel 33 cs = some y) : ∃ ao n cap l, cs = [.slice ao n cap] ∧ ZRow W ao n cap l := by
  rcases open_slice Try.underlying33 h with ⟨rfl, _⟩ | ⟨a, len, cap, m, n, D, Pl, rfl, _, hl, hm, hmm, _, hx⟩
  · exact ⟨none, 0, 0, [], rfl, rfl, Nat.le_refl _, by unfold maxLen; omega, fun _ => rfl, .inl rfl⟩
  · have hlm : len ≤ m := by rw [hmm]; split <;> omega
    by_cases h0 : len = 0
    · subst h0
      exact ⟨some a, 0, cap, [], rfl, rfl, hl, hm, fun e => (by cases e), .inl rfl⟩
    · have hp : ∃ b o, a = ⟨b, o, none⟩ ∧ b < W.heap.size := by
        obtain ⟨cs', h1, _⟩ := hx 0 (by omega)
        rw [cellsInt, Nat.zero_mul, aadd0] at h1
        obtain ⟨_, hlen, hcell⟩ := World.cells?_some h1
        have := hcell 0 (by omega)
        rw [aadd0, List.getElem?_eq_getElem (by omega)] at this
        exact aplain this
      obtain ⟨b, o, rfl, hb⟩ := hp
      have each : ∀ i, i < len → ∃ d, ZAt W b (o + i * 2) d := fun i hi => by
        obtain ⟨cs', h1, h2⟩ := hx i (by omega)
        rw [cellsInt, aaddp] at h1
        exact zat_arg h1 h2
      obtain ⟨q, hq⟩ := choose_lt each
      have hget : ∀ i, i < len → ((List.range len).map q).getD i default = q i := fun i hi => by
        rw [List.getD_eq_getElem?_getD, List.getElem?_map, List.getElem?_range hi]; rfl
      refine ⟨some ⟨b, o, none⟩, len, cap, (List.range len).map q, rfl, by simp, hl, hm, fun e => (by cases e), .inr ⟨b, o, rfl, hb, fun i hi => ?_⟩⟩
      have hi' : i < len := by simpa using hi
      rw [hget i hi']; exact hq i hi'
end
theorem zs_in {H : Type} {enc : TypeId × Value → H} {W : World} {r : Reach} {b0 : Nat} {v : Value} {d : DataW H} {p : List MemPlace} {base : Nat} {spare : TypeId → Bool} {held : Bool}
    (hv : Value.okWide Try.prog W r b0 33 v) (h : DataW.Trod enc Try.prog W base spare held 33 v d p) : ∃ ao n cap l, v = .slice ao n cap ∧ ZRow W ao n cap l := by
  obtain ⟨a, len, cp, rfl⟩ := okWide_slice Try.underlying33 hv
  obtain ⟨fuel, hf⟩ := h
  obtain ⟨ao, n, cap, l, e, hR⟩ := zs_arg hf
  refine ⟨ao, n, cap, l, ?_, hR⟩
  simpa [Value.cells] using e
/-- An ask as data. -/
structure Ak where
  op : Int
  a : Int
  b : Int
  raw : Bool
  w : Int
deriving Inhabited
def AkC (d : Ak) : List Value := [.int .i64 d.op, .int .i64 d.a, .int .i64 d.b, .bool d.raw, .int .u64 d.w]
structure AkOk (d : Ak) : Prop where
  op : Z64 d.op
  a : Z64 d.a
  b : Z64 d.b
  w : U64 d.w
theorem cellsAsk : Try.prog.cellsOf 46 = 5 := by kernel_rfl
section
variable {H : Type} {enc : TypeId × Value → H} {W : World} {base : Nat} {spare : Nat → Bool} {held : Bool}
theorem ask_cells {n : Nat} {cs : List Value} {y : DataW H × List MemPlace} (hlen : cs.length = 5) (h : DataW.trod enc Try.prog W base spare held n 46 cs = some y) : ∃ d, cs = AkC d ∧ AkOk d := by
  obtain ⟨xs, m, hm, hxy, _, hxl, hf⟩ := DataW.trod_struct Try.underlying46 h
  match xs, hxl, cs, hlen with
  | [y0, y1, y2, y3, y4], _, [v0, v1, v2, v3, v4], _ =>
    have g0 := hf 0 _ rfl
    have g1 := hf 1 _ rfl
    have g2 := hf 2 _ rfl
    have g3 := hf 3 _ rfl
    have g4 := hf 4 _ rfl
    simp [acellsI, acellsB, acellsW] at g0 g1 g2 g3 g4
    obtain ⟨z0, q0, _, w0⟩ := DataW.trod_int Try.underlying3 g0
    obtain ⟨z1, q1, _, w1⟩ := DataW.trod_int Try.underlying3 g1
    obtain ⟨z2, q2, _, w2⟩ := DataW.trod_int Try.underlying3 g2
    obtain ⟨b3, q3, _⟩ := DataW.trod_bool Try.underlying4 g3
    obtain ⟨z4, q4, _, w4⟩ := DataW.trod_int Try.underlying39 g4
    cases q0; cases q1; cases q2; cases q3; cases q4
    exact ⟨⟨z0, z1, z2, b3, z4⟩, rfl, bounds_i64 w0, bounds_i64 w1, bounds_i64 w2, (by have := bounds_u64 w4; show U64 z4; unfold U64; omega)⟩
end
theorem ask_in {H : Type} {enc : TypeId × Value → H} {W : World} {r : Reach} {b0 : Nat} {v : Value} {d : DataW H} {p : List MemPlace} {base : Nat} {spare : TypeId → Bool} {held : Bool}
    (hv : Value.okWide Try.prog W r b0 46 v) (h : DataW.Trod enc Try.prog W base spare held 46 v d p) : ∃ x : Ak, v = .agg (AkC x).toArray ∧ AkOk x := by
  obtain ⟨cs, rfl, hsz⟩ := okWide_struct Try.underlying46 hv
  obtain ⟨fuel, hf⟩ := h
  obtain ⟨x, e, hd⟩ := ask_cells (cs := cs.toList) (by rw [Array.length_toList, hsz]; exact cellsAsk) (by simpa [Value.cells] using hf)
  exact ⟨x, by rw [← Array.toArray_toList (xs := cs), e], hd⟩
end Go.Proofs.Ytdekkieajffblaa
