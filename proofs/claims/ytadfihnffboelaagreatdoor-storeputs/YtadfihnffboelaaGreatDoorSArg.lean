import Derived.Test.YtadfihnffboelaaGreatDoorGArg
import Derived.Test.YtadfihnffboelaaGreatDoorSR
import Derived.Deep.Strs
set_option linter.unusedVariables false
set_option linter.unusedSimpArgs false
set_option maxRecDepth 100000
namespace Go.Proofs.YtadfihnffboelaaGreatDoor
open Go.ChangeShapes Go.WideShapes Go.ChangeAt Go.RowKit Go.Joins Go.Deep
theorem zbu1 : Tryz.prog.cellsOf 38 = 1 := by kernel_rfl
section
variable {H : Type} {enc : TypeId × Value -> H} {W : World} {base : Nat} {spare : Nat -> Bool} {held : Bool}
theorem zmx {α : Type} [Inhabited α] {T E k : Nat} (hT : Tryz.prog.underlying T = some (.slice E)) (hE : Tryz.prog.cellsOf E = k) (hk : 0 < k) (P : Nat -> Nat -> α -> Prop)
  (each : ∀ {n : Nat} {cs : List Value} {y : DataW H × List MemPlace} {b o : Nat}, W.cells? base ⟨b, o, none⟩ k = some cs -> DataW.trod enc Tryz.prog W base spare held n E cs = some y -> ∃ d, P b o d)
  {fuel : Nat} {cs : List Value} {y : DataW H × List MemPlace} (h : DataW.trod enc Tryz.prog W base spare held fuel T cs = some y) :
  ∃ ao n cap, ∃ l : List α, cs = [.slice ao n cap] /\ l.length = n /\ n <= cap /\ cap <= maxLen /\ (l = [] \/ ∃ b o, ao = some ⟨b, o, none⟩ /\ b < W.heap.size /\ ∀ i, i < l.length -> P b (o + i * k) (l.getD i default)) := by
 rcases open_slice hT h with ⟨rfl, _⟩ | ⟨a, len, cap, m, n, D, Pl, rfl, _, hl, hm, hmm, _, hx⟩
 ·exact ⟨none, 0, 0, [], rfl, rfl, Nat.le_refl _, by unfold maxLen; omega, .inl rfl⟩
 ·have hlm : len <= m := by rw [hmm]; split <;> omega
  by_cases h0 : len = 0
  ·subst h0
   exact ⟨some a, 0, cap, [], rfl, rfl, hl, hm, .inl rfl⟩
  ·have hp : ∃ b o, a = ⟨b, o, none⟩ /\ b < W.heap.size := by
    obtain ⟨cs', h1, _⟩ := hx 0 (by omega)
    rw [hE, Nat.zero_mul, add0] at h1
    obtain ⟨_, hlen, hcell⟩ := World.cells?_some h1
    have := hcell 0 (by omega)
    rw [add0, List.getElem?_eq_getElem (by omega)] at this
    exact ziw this
   obtain ⟨b, o, rfl, hb⟩ := hp
   have each' : ∀ i, i < len -> ∃ d : α, P b (o + i * k) d := fun i hi => by
    obtain ⟨cs', h1, h2⟩ := hx i (by omega)
    rw [hE, addp] at h1
    exact each h1 h2
   obtain ⟨q, hq⟩ := choose_lt each'
   have hget : ∀ i, i < len -> ((List.range len).map q).getD i default = q i := fun i hi => by
    rw [List.getD_eq_getElem?_getD, List.getElem?_map, List.getElem?_range hi]; rfl
   refine ⟨some ⟨b, o, none⟩, len, cap, (List.range len).map q, rfl, by simp, hl, hm, .inr ⟨b, o, rfl, hb, fun i hi => ?_⟩⟩
   have hi' : i < len := by simpa using hi
   rw [hget i hi']; exact hq i hi'
theorem zqu {fuel : Nat} {cs : List Value} {y : DataW H × List MemPlace} (h : DataW.trod enc Tryz.prog W base spare held fuel 22 cs = some y) : ∃ ao n cap l, cs = [.slice ao n cap] /\ GRow W ao n cap l := by
 obtain ⟨ao, n, cap, l, e, h1, h2, h3, h4⟩ := zmx (α := Gr) Tryz.underlying22 zqt (by omega) (fun b o g => GAt W b o g) (fun {n cs y b o} hc ht => by
  obtain ⟨_, hlen, hcell⟩ := World.cells?_some hc
  obtain ⟨xs, m, hm, hxy, _, hxl, hf⟩ := DataW.trod_struct Tryz.underlying41 ht
  match xs, hxl, cs, hlen with
  | [y0, y1], _, [v0, v1], _ =>
   have g0 := hf 0 _ rfl
   have g1 := hf 1 _ rfl
   simp [zbu1, zvn] at g0 g1
   have e0 := hcell 0 (by omega)
   have e1 := hcell 1 (by omega)
   rw [addp] at e0 e1
   obtain ⟨an, nn, cn, ns, q0, hN⟩ := zvo g0
   obtain ⟨ar, nr, cr, rs, q1, hR⟩ := zoj g1
   cases q0; cases q1
   exact ⟨(ns, rs), an, nn, cn, ar, nr, cr, by simpa using e0, by simpa using e1, hN, hR⟩) h
 exact ⟨ao, n, cap, l, e, h1, h2, h3, h4⟩
end
section
variable {H : Type} {enc : TypeId × Value -> H} {W : World} {r : Reach} {b0 : Nat} {v : Value} {d : DataW H} {p : List MemPlace} {base : Nat} {spare : TypeId -> Bool} {held : Bool}
theorem zvp (hv : Value.okWide Tryz.prog W r b0 22 v) (h : DataW.Trod enc Tryz.prog W base spare held 22 v d p) : ∃ ao n cap l, v = .slice ao n cap /\ GRow W ao n cap l := by
 obtain ⟨a, len, cp, rfl⟩ := okWide_slice Tryz.underlying22 hv
 obtain ⟨fuel, hf⟩ := h
 obtain ⟨ao, n, cap, l, e, hR⟩ := zqu hf
 exact ⟨ao, n, cap, l, by simpa [Value.cells] using e, hR⟩
end
end Go.Proofs.YtadfihnffboelaaGreatDoor
