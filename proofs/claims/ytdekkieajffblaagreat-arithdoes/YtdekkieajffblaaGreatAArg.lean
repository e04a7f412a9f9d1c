/-
  How integers, and asks, that are handed in are opened, over this program.
-/
import Derived.Test.YtdekkieajffblaaGreatW35
import Derived.Test.YtdekkieajffblaaGreatW21
import Derived.Test.YtdekkieajffblaaGreatW6
import Derived.Test.YtdekkieajffblaaGreatRows
import Derived.Test.YtdekkieajffblaaGreatW1
import Derived.ProofKit
import Derived.OpenShut
import Derived.ShutString
import Derived.ChangeOld
import Derived.Below
import Derived.Lib.SmallJoins
import Derived.Test.YtdekkieajffblaaGreatAW3
import Derived.Deep.Slices
set_option linter.unusedVariables false
set_option linter.unusedSimpArgs false
set_option maxRecDepth 100000
namespace Go.Proofs.YtdekkieajffblaaGreat
open Go.RowKit

/-- How two integers compare. -/
def cmpZ (a b : Int) : Int := if a < b then -1 else if a = b then 0 else 1
theorem cmpZ_bd (a b : Int) : -1 ≤ cmpZ a b ∧ cmpZ a b ≤ 1 := by unfold cmpZ; split <;> (try split) <;> omega
theorem cmpR_is {s s' : Bool} {l l' : List Nat} (g : goodB s l = true) (g' : goodB s' l' = true) : cmpR s s' (val B32 l) (val B32 l') = cmpZ (sgn s (val B32 l)) (sgn s' (val B32 l')) := by
  have h1 : s = true → val B32 l ≠ 0 := fun hs => (goodB_tr g).ne_zero (by decide) (fun e => by have := goodB_neg g (by simp [e]); rw [hs] at this; cases this)
  have h2 : s' = true → val B32 l' ≠ 0 := fun hs => (goodB_tr g').ne_zero (by decide) (fun e => by have := goodB_neg g' (by simp [e]); rw [hs] at this; cases this)
  generalize val B32 l = x at *
  generalize val B32 l' = y at *
  by_cases h : s = s'
  · subst h
    rw [cmpR_eq]
    unfold cmpN cmpZ
    cases s
    · simp only [sgn, Bool.false_eq_true, if_false]
      by_cases hxy : x < y
      · rw [if_pos hxy, if_pos (by omega)]
      · by_cases he : x = y
        · rw [if_neg hxy, if_pos he, if_neg (by omega), if_pos (by omega)]
        · rw [if_neg hxy, if_neg he, if_neg (by omega), if_neg (by omega)]
    · simp only [sgn, if_true]
      by_cases hxy : x < y
      · rw [if_pos hxy, if_neg (by omega), if_neg (by omega)]; rfl
      · by_cases he : x = y
        · rw [if_neg hxy, if_pos he, if_neg (by omega), if_pos (by omega)]; rfl
        · rw [if_neg hxy, if_neg he, if_pos (by omega)]
  · rw [cmpR_ne _ _ h]
    unfold cmpZ
    cases s <;> cases s' <;> simp only [sgn, Bool.false_eq_true, if_false, if_true] at h ⊢
    · exact absurd trivial h
    · have := h2 rfl
      rw [if_neg (by omega), if_neg (by omega)]
    · have := h1 rfl
      rw [if_pos (by omega)]
    · exact absurd trivial h
theorem cmp_is (x y : Value) (a b : Int) (w : World) (hx : IsInt w x a) (hy : IsInt w y b) : Calls Tryz.prog 43 #[x, y] w fun e w' => e = .returned (.int .i64 (cmpZ a b)) ∧ Below w.heap.size w w' := by
  obtain ⟨s, ao, n, cap, l, rfl, R, g, rfl⟩ := hx.open_
  obtain ⟨s', ao', n', cap', l', rfl, R', g', rfl⟩ := hy.open_
  rw [← cmpR_is g g']
  exact cmp_any s s' ao ao' n cap n' cap' l l' w R R' g g'
theorem rcmp_is (x y : Value) (a b : Int) (w : World) (hx : IsInt w x a) (hy : IsInt w y b) : Calls Tryz.prog 15 #[x, y] w fun e w' => e = .returned (.int .i64 (cmpZ a b)) ∧ Below w.heap.size w w' := by
  obtain ⟨s, ao, n, cap, l, rfl, R, g, rfl⟩ := hx.open_
  obtain ⟨s', ao', n', cap', l', rfl, R', g', rfl⟩ := hy.open_
  rw [← cmpR_is g g']
  have := R.len
  have := R'.len
  have := goodB_len g
  have := goodB_len g'
  exact rcmp_any s s' ao ao' n cap n' cap' l l' w R R' (by omega) (by omega)
section
variable {B : Nat} {v : Value} {N : Int} {os : List Ob} {ws : List Int} {F : Nat → Prop} {w w1 w' : World}
def cmpM (os : List Ob) (p q : Int) : Int := if (bothZ os p q).2.2 = 0 then cmpZ (bothZ os p q).1 (bothZ os p q).2.1 else 0
set_option maxHeartbeats 4000000 in
theorem acmp_any (ho : OsOk os) (ha : AllBig os) (p q : Int) (hp : U64 p) (hq : U64 q) (w : World) (h : PH B v N (wordsL os) F w) :
    Calls Tryz.prog 14 #[v, .int .u64 p, .int .u64 q] w fun e w' => e = .returned (.tuple #[.int .i64 (cmpM os p q), .int .i64 (bothZ os p q).2.2]) ∧ Below w.heap.size w w' := by
  have C1 := hid (aboth_any ho ha p q hp hq w h)
  unfold BoPost at C1
  have CC : Hid (∀ (x y : Value) (a b : Int) (W : World), IsInt W x a → IsInt W y b → Calls Tryz.prog 43 #[x, y] W fun e w' => e = .returned (.int .i64 (cmpZ a b)) ∧ Below W.heap.size W w') := fun x y a b W hx hy => cmp_is x y a b W hx hy
  have hm : cmpM os p q = if (bothZ os p q).2.2 = 0 then cmpZ (bothZ os p q).1 (bothZ os p q).2.1 else 0 := rfl
  rw [hm]
  obtain ⟨gh, rfl⟩ := h.ptr
  obtain ⟨r, hr⟩ : ∃ r, r = bothZ os p q := ⟨_, rfl⟩
  rw [← hr] at C1 ⊢
  clear hr hm h ho ha hp hq
  by_cases h1 : r.2.2 = 0
  · rw [if_pos h1, h1]
    rw [h1] at C1
    clear h1
    go_enter Tryz.func14, Tryz.ntmps14
    go_wp2_with (first
      | (go_at_call 42; (with_reducible refine C1.out.mono ?_); rintro e W1 ⟨s1, a1, n1, c1, s2, a2, n2, c2, rfl, hI1, hI2, b2⟩; have v2 := Baa W1 (.cells #[.bool s1, .slice a1 n1 c1] 40) (.cells #[.bool s2, .slice a2 n2 c2] 40); have y1 := (Box.new 40 W1 s1 a1 n1 c1).alloc (.cells #[.bool s2, .slice a2 n2 c2] 40); have y2 := Box.new 40 (W1.alloc (.cells #[.bool s1, .slice a1 n1 c1] 40)) s2 a2 n2 c2; rw [size_alloc] at y2; have HB2 := hid (Bt b2 v2); obtain ⟨d0, d1⟩ := y1.c; obtain ⟨d2, d3⟩ := y2.c; have C3 := hid (CC.out _ _ _ _ _ (hI1.below v2) (hI2.below v2)); clear b2 v2 y1 y2 hI1 hI2)
      | (go_at_call 43; (with_reducible refine C3.out.mono ?_); rintro e W3 ⟨rfl, b3⟩; have HB3 := hid (Bt HB2.out b3); clear b3))
    go_ret2
    exact ⟨rfl, HB3.out⟩
  · rw [if_neg h1]
    obtain ⟨er, her⟩ : ∃ e, e = r.2.2 := ⟨_, rfl⟩
    rw [← her] at C1 h1 ⊢
    have e2 : (er == 0) = false := by simpa using h1
    clear her
    go_enter Tryz.func14, Tryz.ntmps14
    go_wp2_with (go_at_call 42; (with_reducible refine C1.out.mono ?_); rintro e W1 ⟨s1, a1, n1, c1, s2, a2, n2, c2, rfl, hI1, hI2, b2⟩; have v2 := Baa W1 (.cells #[.bool s1, .slice a1 n1 c1] 40) (.cells #[.bool s2, .slice a2 n2 c2] 40); have HB2 := hid (Bt b2 v2); clear b2 v2 hI1 hI2)
    go_ret2
    exact ⟨rfl, HB2.out⟩
end
end Go.Proofs.YtdekkieajffblaaGreat

set_option linter.unusedVariables false
set_option maxRecDepth 100000
set_option linter.unusedSimpArgs false
namespace Go.Proofs.YtdekkieajffblaaGreat
open Go.ChangeShapes Go.WideShapes Go.ChangeAt Go.RowKit Go.Joins

theorem own : ownKnob Tryz.prog.godebug = none := by kernel_rfl
theorem laidOut : laidOutB Tryz.prog = true := by kernel_rfl
theorem cellsInt : Tryz.prog.cellsOf 40 = 2 := by kernel_rfl

theorem wf_u32 {z : Int} (h : (Lit.int .u32 z).wf = true) : 0 ≤ z ∧ z < 4294967296 := by
  have := bounds_u32 h
  omega

theorem int_arg {H : Type} {enc : TypeId × Value → H} {W : World} {r : Reach} {b0 : Nat} {v : Value} {d : DataW H} {p : List MemPlace} {base : Nat} {spare : TypeId → Bool} {held : Bool}
    (hv : Value.okWide Tryz.prog W r b0 40 v) (h : DataW.Trod enc Tryz.prog W base spare held 40 v d p) :
    ∃ neg ao n cap l, v = .agg #[.bool neg, .slice ao n cap] ∧ Row .u32 B32 W ao n cap l := by
  obtain ⟨c0, c1, y0, y1, m, rfl, rfl, rfl, hy0, hy1⟩ := open_agg2 Tryz.underlying40 (by kernel_rfl) cellsInt hv h
  obtain ⟨b, e0, _⟩ := DataW.trod_bool Tryz.underlying4 hy0
  cases e0
  rcases open_ints Tryz.underlying38 Tryz.underlying92 (by kernel_rfl) hy1 with ⟨hcs, _⟩ | ⟨a, len, cap, zs, hcs, _, hl, hm, hz, _, hcell, hwz⟩
  · cases hcs
    exact ⟨b, none, 0, 0, [], rfl, Row.nil _ _ _ _⟩
  · cases hcs
    have hzl : len ≤ zs.length := by rw [hz]; split <;> omega
    have hlen : ((zs.take len).map Int.toNat).length = len := by rw [List.length_map, List.length_take, Nat.min_eq_left hzl]
    refine ⟨b, some a, len, cap, (zs.take len).map Int.toNat, rfl, hlen, hl, hm, fun h => (by cases h), ?_, ?_⟩
    · intro x hx
      obtain ⟨z, hz', rfl⟩ := List.mem_map.1 hx
      have := wf_u32 (hwz z (List.mem_of_mem_take hz'))
      unfold B32; omega
    · by_cases h0 : len = 0
      · subst h0; exact .inl (by simp)
      · have hc0 := hcell 0 (by omega)
        obtain ⟨bb, o, sp⟩ := a
        have hsp : sp = none := by
          cases sp with
          | none => rfl
          | some k =>
            exfalso
            simp [Addr.add, World.cell?] at hc0
            split at hc0 <;> simp_all
        subst hsp
        have hlt : bb < W.heap.size := World.block_lt_of_cell? W ⟨bb, o, none⟩ (by simpa [Addr.add] using hc0)
        refine .inr ⟨bb, o, rfl, hlt, fun i hi => ?_⟩
        rw [hlen] at hi
        have hci := hcell i (by omega)
        have h1 : W.cell? ⟨bb, o + i, none⟩ = W.cell? (Addr.add ⟨bb, o, none⟩ i) := by
          unfold Addr.add
          by_cases hi0 : i = 0
          · subst hi0; simp
          · rw [if_neg hi0]
        rw [h1, hci]
        have h2 : zs.getD i 0 = (((zs.take len).map Int.toNat).getD i 0 : Nat) := by
          rw [List.getD_eq_getElem?_getD, List.getD_eq_getElem?_getD, List.getElem?_map, List.getElem?_take, if_pos hi, List.getElem?_eq_getElem (by omega)]
          have := wf_u32 (hwz zs[i] (List.getElem_mem _))
          simp only [Option.map_some, Option.getD_some]
          omega
        rw [h2]

end Go.Proofs.YtdekkieajffblaaGreat

set_option linter.unusedVariables false
set_option linter.unusedSimpArgs false
set_option maxRecDepth 100000
namespace Go.Proofs.YtdekkieajffblaaGreat
open Go.ChangeShapes Go.WideShapes Go.ChangeAt Go.RowKit Go.Joins Go.Deep

theorem acellsB : Tryz.prog.cellsOf 4 = 1 := by kernel_rfl
theorem acellsI : Tryz.prog.cellsOf 3 = 1 := by kernel_rfl
theorem acellsW : Tryz.prog.cellsOf 35 = 1 := by kernel_rfl
theorem acellsU : Tryz.prog.cellsOf 38 = 1 := by kernel_rfl
theorem aaddp (b o k : Nat) : Addr.add ⟨b, o, none⟩ k = ⟨b, o + k, none⟩ := by
  unfold Addr.add
  by_cases h : k = 0
  · subst h; simp
  · rw [if_neg h]
theorem aplain {W : World} {a : Addr} {v : Value} (h : W.cell? a = some v) : ∃ b o, a = ⟨b, o, none⟩ ∧ b < W.heap.size := by
  obtain ⟨bb, o, sp⟩ := a
  have hsp : sp = none := by
    cases sp with
    | none => rfl
    | some k =>
      exfalso
      simp [World.cell?] at h
      split at h <;> simp_all
  subst hsp
  exact ⟨bb, o, rfl, World.block_lt_of_cell? W ⟨bb, o, none⟩ h⟩
theorem aadd0 (a : Addr) : a.add 0 = a := by simp [Addr.add]
section
variable {H : Type} {enc : TypeId × Value → H} {W : World} {base : Nat} {spare : Nat → Bool} {held : Bool}
theorem digs_arg {fuel : Nat} {cs : List Value} {y : DataW H × List MemPlace} (h : DataW.trod enc Tryz.prog W base spare held fuel 38 cs = some y) : ∃ ao n cap l, cs = [.slice ao n cap] ∧ Row .u32 B32 W ao n cap l := by
  rcases open_ints Tryz.underlying38 Tryz.underlying92 (by kernel_rfl) h with ⟨hcs, _⟩ | ⟨a, len, cap, zs, hcs, _, hl, hm, hz, _, hcell, hwz⟩
  · cases hcs
    exact ⟨none, 0, 0, [], rfl, Row.nil _ _ _ _⟩
  · cases hcs
    have hzl : len ≤ zs.length := by rw [hz]; split <;> omega
    have hlen : ((zs.take len).map Int.toNat).length = len := by rw [List.length_map, List.length_take, Nat.min_eq_left hzl]
    refine ⟨some a, len, cap, (zs.take len).map Int.toNat, rfl, hlen, hl, hm, fun h => (by cases h), ?_, ?_⟩
    · intro x hx
      obtain ⟨z, hz', rfl⟩ := List.mem_map.1 hx
      have := wf_u32 (hwz z (List.mem_of_mem_take hz'))
      unfold B32; omega
    · by_cases h0 : len = 0
      · subst h0; exact .inl (by simp)
      · have hc0 := hcell 0 (by omega)
        obtain ⟨bb, o, sp⟩ := a
        have hsp : sp = none := by
          cases sp with
          | none => rfl
          | some k =>
            exfalso
            simp [Addr.add, World.cell?] at hc0
            split at hc0 <;> simp_all
        subst hsp
        have hlt : bb < W.heap.size := World.block_lt_of_cell? W ⟨bb, o, none⟩ (by simpa [Addr.add] using hc0)
        refine .inr ⟨bb, o, rfl, hlt, fun i hi => ?_⟩
        rw [hlen] at hi
        have hci := hcell i (by omega)
        have h1 : W.cell? ⟨bb, o + i, none⟩ = W.cell? (Addr.add ⟨bb, o, none⟩ i) := by
          unfold Addr.add
          by_cases hi0 : i = 0
          · subst hi0; simp
          · rw [if_neg hi0]
        rw [h1, hci]
        have h2 : zs.getD i 0 = (((zs.take len).map Int.toNat).getD i 0 : Nat) := by
          rw [List.getD_eq_getElem?_getD, List.getD_eq_getElem?_getD, List.getElem?_map, List.getElem?_take, if_pos hi, List.getElem?_eq_getElem (by omega)]
          have := wf_u32 (hwz zs[i] (List.getElem_mem _))
          simp only [Option.map_some, Option.getD_some]
          omega
        rw [h2]
theorem zat_arg {n : Nat} {cs : List Value} {y : DataW H × List MemPlace} {b k : Nat} (hc : W.cells? base ⟨b, k, none⟩ 2 = some cs) (h : DataW.trod enc Tryz.prog W base spare held n 40 cs = some y) : ∃ x, ZAt W b k x := by
  obtain ⟨_, hlen, hcell⟩ := World.cells?_some hc
  obtain ⟨xs, m, hm, hxy, _, hxl, hf⟩ := DataW.trod_struct Tryz.underlying40 h
  match xs, hxl, cs, hlen with
  | [y0, y1], _, [v0, v1], _ =>
    have g0 := hf 0 _ rfl
    have g1 := hf 1 _ rfl
    simp [acellsB, acellsU] at g0 g1
    have e0 := hcell 0 (by omega)
    have e1 := hcell 1 (by omega)
    rw [aaddp] at e0 e1
    obtain ⟨z0, q0, _⟩ := DataW.trod_bool Tryz.underlying4 g0
    obtain ⟨ao, nk, ck, l, q3, hI⟩ := digs_arg g1
    cases q0; cases q3
    exact ⟨(z0, l), by simpa using e0, ao, nk, ck, by simpa using e1, hI⟩
theorem zs_arg {fuel : Nat} {cs : List Value} {y : DataW H × List MemPlace} (h : DataW.trod enc Tryz.prog W base spare held fuel 22 cs = some y) : ∃ ao n cap l, cs = [.slice ao n cap] ∧ ZRow W ao n cap l := by
  rcases open_slice Tryz.underlying22 h with ⟨rfl, _⟩ | ⟨a, len, cap, m, n, D, Pl, rfl, _, hl, hm, hmm, _, hx⟩
  · exact ⟨none, 0, 0, [], rfl, rfl, Nat.le_refl _, by unfold maxLen; omega, fun _ => rfl, .inl rfl⟩
  · have hlm : len ≤ m := by rw [hmm]; split <;> omega
    by_cases h0 : len = 0
    · subst h0
      exact ⟨some a, 0, cap, [], rfl, rfl, hl, hm, fun e => (by cases e), .inl rfl⟩
    · have hp : ∃ b o, a = ⟨b, o, none⟩ ∧ b < W.heap.size := by
        obtain ⟨cs', h1, _⟩ := hx 0 (by omega)
        rw [cellsInt, Nat.zero_mul, aadd0] at h1
        obtain ⟨_, hlen, hcell⟩ := World.cells?_some h1
        have := hcell 0 (by omega)
        rw [aadd0, List.getElem?_eq_getElem (by omega)] at this
        exact aplain this
      obtain ⟨b, o, rfl, hb⟩ := hp
      have each : ∀ i, i < len → ∃ d, ZAt W b (o + i * 2) d := fun i hi => by
        obtain ⟨cs', h1, h2⟩ := hx i (by omega)
        rw [cellsInt, aaddp] at h1
        exact zat_arg h1 h2
      obtain ⟨q, hq⟩ := choose_lt each
      have hget : ∀ i, i < len → ((List.range len).map q).getD i default = q i := fun i hi => by
        rw [List.getD_eq_getElem?_getD, List.getElem?_map, List.getElem?_range hi]; rfl
      refine ⟨some ⟨b, o, none⟩, len, cap, (List.range len).map q, rfl, by simp, hl, hm, fun e => (by cases e), .inr ⟨b, o, rfl, hb, fun i hi => ?_⟩⟩
      have hi' : i < len := by simpa using hi
      rw [hget i hi']; exact hq i hi'
end
theorem zs_in {H : Type} {enc : TypeId × Value → H} {W : World} {r : Reach} {b0 : Nat} {v : Value} {d : DataW H} {p : List MemPlace} {base : Nat} {spare : TypeId → Bool} {held : Bool}
    (hv : Value.okWide Tryz.prog W r b0 22 v) (h : DataW.Trod enc Tryz.prog W base spare held 22 v d p) : ∃ ao n cap l, v = .slice ao n cap ∧ ZRow W ao n cap l := by
  obtain ⟨a, len, cp, rfl⟩ := okWide_slice Tryz.underlying22 hv
  obtain ⟨fuel, hf⟩ := h
  obtain ⟨ao, n, cap, l, e, hR⟩ := zs_arg hf
  refine ⟨ao, n, cap, l, ?_, hR⟩
  simpa [Value.cells] using e
/-- An ask as data. -/
structure Ak where
  op : Int
  a : Int
  b : Int
  raw : Bool
  w : Int
deriving Inhabited
def AkC (d : Ak) : List Value := [.int .i64 d.op, .int .i64 d.a, .int .i64 d.b, .bool d.raw, .int .u64 d.w]
structure AkOk (d : Ak) : Prop where
  op : Z64 d.op
  a : Z64 d.a
  b : Z64 d.b
  w : U64 d.w
theorem cellsAsk : Tryz.prog.cellsOf 43 = 5 := by kernel_rfl
section
variable {H : Type} {enc : TypeId × Value → H} {W : World} {base : Nat} {spare : Nat → Bool} {held : Bool}
theorem ask_cells {n : Nat} {cs : List Value} {y : DataW H × List MemPlace} (hlen : cs.length = 5) (h : DataW.trod enc Tryz.prog W base spare held n 43 cs = some y) : ∃ d, cs = AkC d ∧ AkOk d := by
  obtain ⟨xs, m, hm, hxy, _, hxl, hf⟩ := DataW.trod_struct Tryz.underlying43 h
  match xs, hxl, cs, hlen with
  | [y0, y1, y2, y3, y4], _, [v0, v1, v2, v3, v4], _ =>
    have g0 := hf 0 _ rfl
    have g1 := hf 1 _ rfl
    have g2 := hf 2 _ rfl
    have g3 := hf 3 _ rfl
    have g4 := hf 4 _ rfl
    simp [acellsI, acellsB, acellsW] at g0 g1 g2 g3 g4
    obtain ⟨z0, q0, _, w0⟩ := DataW.trod_int Tryz.underlying3 g0
    obtain ⟨z1, q1, _, w1⟩ := DataW.trod_int Tryz.underlying3 g1
    obtain ⟨z2, q2, _, w2⟩ := DataW.trod_int Tryz.underlying3 g2
    obtain ⟨b3, q3, _⟩ := DataW.trod_bool Tryz.underlying4 g3
    obtain ⟨z4, q4, _, w4⟩ := DataW.trod_int Tryz.underlying35 g4
    cases q0; cases q1; cases q2; cases q3; cases q4
    exact ⟨⟨z0, z1, z2, b3, z4⟩, rfl, bounds_i64 w0, bounds_i64 w1, bounds_i64 w2, (by have := bounds_u64 w4; show U64 z4; unfold U64; omega)⟩
end
theorem ask_in {H : Type} {enc : TypeId × Value → H} {W : World} {r : Reach} {b0 : Nat} {v : Value} {d : DataW H} {p : List MemPlace} {base : Nat} {spare : TypeId → Bool} {held : Bool}
    (hv : Value.okWide Tryz.prog W r b0 43 v) (h : DataW.Trod enc Tryz.prog W base spare held 43 v d p) : ∃ x : Ak, v = .agg (AkC x).toArray ∧ AkOk x := by
  obtain ⟨cs, rfl, hsz⟩ := okWide_struct Tryz.underlying43 hv
  obtain ⟨fuel, hf⟩ := h
  obtain ⟨x, e, hd⟩ := ask_cells (cs := cs.toList) (by rw [Array.length_toList, hsz]; exact cellsAsk) (by simpa [Value.cells] using hf)
  exact ⟨x, by rw [← Array.toArray_toList (xs := cs), e], hd⟩
end Go.Proofs.YtdekkieajffblaaGreat
