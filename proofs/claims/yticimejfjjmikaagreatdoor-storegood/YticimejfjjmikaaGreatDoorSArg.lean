import Derived.Test.YticimejfjjmikaaGreatDoorGArg
import Derived.Test.YticimejfjjmikaaGreatDoorSR
import Derived.Deep.Strs
set_option linter.unusedVariables false
set_option linter.unusedSimpArgs false
set_option maxRecDepth 100000
namespace Go.Proofs.YticimejfjjmikaaGreatDoor
open Go.ChangeShapes Go.WideShapes Go.ChangeAt Go.RowKit Go.Joins Go.Deep
theorem cellsW : Tryz.prog.cellsOf 44 = 1 := by kernel_rfl
theorem cellsB : Tryz.prog.cellsOf 4 = 1 := by kernel_rfl
section
variable {H : Type} {enc : TypeId × Value -> H} {W : World} {base : Nat} {spare : Nat -> Bool} {held : Bool}
theorem texts_arg {fuel : Nat} {cs : List Value} {y : DataW H × List MemPlace} (h : DataW.trod enc Tryz.prog W base spare held fuel 71 cs = some y) : ∃ ao n cap l, cs = [.slice ao n cap] /\ TRow W ao n cap l := by
 rcases open_strs Tryz.underlying71 Tryz.underlying9 cellsS h with ⟨rfl, _⟩ | ⟨a, len, cap, m, Sx, rfl, _, hl, hm, hmm, _, hx⟩
 ·exact ⟨none, 0, 0, [], rfl, rfl, Nat.le_refl _, by unfold maxLen; omega, fun _ e => (by cases e), .inl rfl⟩
 ·have hlm : len <= m := by rw [hmm]; split <;> omega
  have hget : ∀ i, i < len -> ((List.range len).map Sx).getD i ByteArray.empty = Sx i := fun i hi => by
   rw [List.getD_eq_getElem?_getD, List.getElem?_map, List.getElem?_range hi]; rfl
  refine ⟨some a, len, cap, (List.range len).map Sx, rfl, by simp, hl, hm, ?_, ?_⟩
  ·intro s hs
   obtain ⟨i, hi, rfl⟩ := List.mem_map.1 hs
   exact (hx i (by have := List.mem_range.1 hi; omega)).2
  ·by_cases h0 : len = 0
   ·subst h0; exact .inl (by simp)
   ·have hc0 := (hx 0 (by omega)).1
    rw [add0] at hc0
    obtain ⟨bb, o, rfl, hlt⟩ := plain_of hc0
    refine .inr ⟨bb, o, rfl, hlt, fun i hi => ?_⟩
    have hi' : i < len := by simpa using hi
    have hci := (hx i (by omega)).1
    rw [addp] at hci
    rw [hci, hget i hi']
theorem swords_arg {fuel : Nat} {cs : List Value} {y : DataW H × List MemPlace} (h : DataW.trod enc Tryz.prog W base spare held fuel 23 cs = some y) : ∃ ao n cap l, cs = [.slice ao n cap] /\ URow W ao n cap l := by
 rcases open_ints Tryz.underlying23 Tryz.underlying44 cellsW h with ⟨rfl, _⟩ | ⟨a, len, cap, zs, rfl, _, hl, hm, hz, _, hcell, hwz⟩
 ·exact ⟨none, 0, 0, [], rfl, rfl, Nat.le_refl _, by unfold maxLen; omega, fun _ => rfl, fun _ e => (by cases e), .inl rfl⟩
 ·have hzl : len <= zs.length := by rw [hz]; split <;> omega
  have hlen : (zs.take len).length = len := by rw [List.length_take, Nat.min_eq_left hzl]
  refine ⟨some a, len, cap, zs.take len, rfl, hlen, hl, hm, fun h => (by cases h), ?_, ?_⟩
  ·intro z hz'
   have := bounds_u64 (hwz z (List.mem_of_mem_take hz'))
   unfold U64; omega
  ·by_cases h0 : len = 0
   ·subst h0; exact .inl (by simp)
   ·have hc0 := hcell 0 (by omega)
    rw [add0] at hc0
    obtain ⟨bb, o, rfl, hlt⟩ := plain_of hc0
    refine .inr ⟨bb, o, rfl, hlt, fun i hi => ?_⟩
    rw [hlen] at hi
    have hci := hcell i (by omega)
    rw [addp] at hci
    rw [hci, List.getD_eq_getElem?_getD, List.getD_eq_getElem?_getD, List.getElem?_take, if_pos hi]
theorem structs_arg {α : Type} [Inhabited α] {T E k : Nat} (hT : Tryz.prog.underlying T = some (.slice E)) (hE : Tryz.prog.cellsOf E = k) (hk : 0 < k) (P : Nat -> Nat -> α -> Prop)
  (each : ∀ {n : Nat} {cs : List Value} {y : DataW H × List MemPlace} {b o : Nat}, W.cells? base ⟨b, o, none⟩ k = some cs -> DataW.trod enc Tryz.prog W base spare held n E cs = some y -> ∃ d, P b o d)
  {fuel : Nat} {cs : List Value} {y : DataW H × List MemPlace} (h : DataW.trod enc Tryz.prog W base spare held fuel T cs = some y) :
  ∃ ao n cap, ∃ l : List α, cs = [.slice ao n cap] /\ l.length = n /\ n <= cap /\ cap <= maxLen /\ (l = [] \/ ∃ b o, ao = some ⟨b, o, none⟩ /\ b < W.heap.size /\ ∀ i, i < l.length -> P b (o + i * k) (l.getD i default)) := by
 rcases open_slice hT h with ⟨rfl, _⟩ | ⟨a, len, cap, m, n, D, Pl, rfl, _, hl, hm, hmm, _, hx⟩
 ·exact ⟨none, 0, 0, [], rfl, rfl, Nat.le_refl _, by unfold maxLen; omega, .inl rfl⟩
 ·have hlm : len <= m := by rw [hmm]; split <;> omega
  by_cases h0 : len = 0
  ·subst h0
   exact ⟨some a, 0, cap, [], rfl, rfl, hl, hm, .inl rfl⟩
  ·have hp : ∃ b o, a = ⟨b, o, none⟩ /\ b < W.heap.size := by
    obtain ⟨cs', h1, _⟩ := hx 0 (by omega)
    rw [hE, Nat.zero_mul, add0] at h1
    obtain ⟨_, hlen, hcell⟩ := World.cells?_some h1
    have := hcell 0 (by omega)
    rw [add0, List.getElem?_eq_getElem (by omega)] at this
    exact plain_of this
   obtain ⟨b, o, rfl, hb⟩ := hp
   have each' : ∀ i, i < len -> ∃ d : α, P b (o + i * k) d := fun i hi => by
    obtain ⟨cs', h1, h2⟩ := hx i (by omega)
    rw [hE, addp] at h1
    exact each h1 h2
   obtain ⟨q, hq⟩ := choose_lt each'
   have hget : ∀ i, i < len -> ((List.range len).map q).getD i default = q i := fun i hi => by
    rw [List.getD_eq_getElem?_getD, List.getElem?_map, List.getElem?_range hi]; rfl
   refine ⟨some ⟨b, o, none⟩, len, cap, (List.range len).map q, rfl, by simp, hl, hm, .inr ⟨b, o, rfl, hb, fun i hi => ?_⟩⟩
   have hi' : i < len := by simpa using hi
   rw [hget i hi']; exact hq i hi'
theorem cellsSo : Tryz.prog.cellsOf 64 = 2 := by kernel_rfl
theorem cellsSf : Tryz.prog.cellsOf 78 = 3 := by kernel_rfl
theorem cellsSfs : Tryz.prog.cellsOf 62 = 1 := by kernel_rfl
theorem sfs_arg {fuel : Nat} {cs : List Value} {y : DataW H × List MemPlace} (h : DataW.trod enc Tryz.prog W base spare held fuel 62 cs = some y) : ∃ ao n cap l, cs = [.slice ao n cap] /\ SfRow W ao n cap l := by
 obtain ⟨ao, n, cap, l, e, h1, h2, h3, h4⟩ := structs_arg (α := Sf) Tryz.underlying62 cellsSf (by omega) (fun b o f => SfAt W b o f /\ SfOk f) (fun {n cs y b o} hc ht => by
  obtain ⟨_, hlen, hcell⟩ := World.cells?_some hc
  obtain ⟨xs, m, hm, hxy, _, hxl, hf⟩ := DataW.trod_struct Tryz.underlying78 ht
  match xs, hxl, cs, hlen with
  | [y0, y1, y2], _, [v0, v1, v2], _ =>
   have g0 := hf 0 _ rfl
   have g1 := hf 1 _ rfl
   have g2 := hf 2 _ rfl
   simp [cellsB, cellsI, cellsW] at g0 g1 g2
   have e0 := hcell 0 (by omega)
   have e1 := hcell 1 (by omega)
   have e2 := hcell 2 (by omega)
   rw [addp] at e0 e1 e2
   obtain ⟨b0, q0, _⟩ := DataW.trod_bool Tryz.underlying4 g0
   obtain ⟨z1, q1, _, w1⟩ := DataW.trod_int Tryz.underlying3 g1
   obtain ⟨z2, q2, _, w2⟩ := DataW.trod_int Tryz.underlying44 g2
   cases q0; cases q1; cases q2
   exact ⟨⟨b0, z1, z2⟩, ⟨by simpa using e0, by simpa using e1, by simpa using e2⟩, ⟨bounds_i64 w1, (by have := bounds_u64 w2; show U64 z2; unfold U64; omega)⟩⟩) h
 refine ⟨ao, n, cap, l, e, h1, h2, h3, fun f hf => ?_, ?_⟩
 ·rcases h4 with e | ⟨b, o, _, _, h5⟩
  ·rw [e] at hf; cases hf
  ·obtain ⟨i, hi, rfl⟩ := List.getElem_of_mem hf
   have := (h5 i hi).2
   rw [List.getD_eq_getElem?_getD, List.getElem?_eq_getElem hi] at this
   exact this
 ·exact h4.imp id (fun ⟨b, o, e1, e2, h5⟩ => ⟨b, o, e1, e2, fun i hi => (h5 i hi).1⟩)
theorem sos_arg {fuel : Nat} {cs : List Value} {y : DataW H × List MemPlace} (h : DataW.trod enc Tryz.prog W base spare held fuel 22 cs = some y) : ∃ ao n cap l, cs = [.slice ao n cap] /\ SoRow W ao n cap l := by
 obtain ⟨ao, n, cap, l, e, h1, h2, h3, h4⟩ := structs_arg (α := So) Tryz.underlying22 cellsSo (by omega) (fun b o f => SoAt W b o f /\ Z64 f.kind) (fun {n cs y b o} hc ht => by
  obtain ⟨_, hlen, hcell⟩ := World.cells?_some hc
  obtain ⟨xs, m, hm, hxy, _, hxl, hf⟩ := DataW.trod_struct Tryz.underlying64 ht
  match xs, hxl, cs, hlen with
  | [y0, y1], _, [v0, v1], _ =>
   have g0 := hf 0 _ rfl
   have g1 := hf 1 _ rfl
   simp [cellsI, cellsSfs] at g0 g1
   have e0 := hcell 0 (by omega)
   have e1 := hcell 1 (by omega)
   rw [addp] at e0 e1
   obtain ⟨z0, q0, _, w0⟩ := DataW.trod_int Tryz.underlying3 g0
   obtain ⟨af, nf, cf, fs, q1, hF⟩ := sfs_arg g1
   cases q0; cases q1
   exact ⟨⟨z0, fs⟩, ⟨by simpa using e0, af, nf, cf, by simpa using e1, hF⟩, bounds_i64 w0⟩) h
 refine ⟨ao, n, cap, l, e, h1, h2, h3, fun f hf => ?_, ?_⟩
 ·rcases h4 with e | ⟨b, o, _, _, h5⟩
  ·rw [e] at hf; cases hf
  ·obtain ⟨i, hi, rfl⟩ := List.getElem_of_mem hf
   have := (h5 i hi).2
   rw [List.getD_eq_getElem?_getD, List.getElem?_eq_getElem hi] at this
   exact this
 ·exact h4.imp id (fun ⟨b, o, e1, e2, h5⟩ => ⟨b, o, e1, e2, fun i hi => (h5 i hi).1⟩)
end
section
variable {H : Type} {enc : TypeId × Value -> H} {W : World} {r : Reach} {b0 : Nat} {v : Value} {d : DataW H} {p : List MemPlace} {base : Nat} {spare : TypeId -> Bool} {held : Bool}
theorem swords_in (hv : Value.okWide Tryz.prog W r b0 23 v) (h : DataW.Trod enc Tryz.prog W base spare held 23 v d p) : ∃ ao n cap l, v = .slice ao n cap /\ URow W ao n cap l := by
 obtain ⟨a, len, cp, rfl⟩ := okWide_slice Tryz.underlying23 hv
 obtain ⟨fuel, hf⟩ := h
 obtain ⟨ao, n, cap, l, e, hR⟩ := swords_arg hf
 exact ⟨ao, n, cap, l, by simpa [Value.cells] using e, hR⟩
theorem sos_in (hv : Value.okWide Tryz.prog W r b0 22 v) (h : DataW.Trod enc Tryz.prog W base spare held 22 v d p) : ∃ ao n cap l, v = .slice ao n cap /\ SoRow W ao n cap l := by
 obtain ⟨a, len, cp, rfl⟩ := okWide_slice Tryz.underlying22 hv
 obtain ⟨fuel, hf⟩ := h
 obtain ⟨ao, n, cap, l, e, hR⟩ := sos_arg hf
 exact ⟨ao, n, cap, l, by simpa [Value.cells] using e, hR⟩
end
end Go.Proofs.YticimejfjjmikaaGreatDoor
