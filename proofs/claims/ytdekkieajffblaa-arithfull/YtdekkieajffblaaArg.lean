/-
  How an integer that is handed in is opened, over this program.
-/
import Derived.Test.YtdekkieajffblaaW35
import Derived.Test.YtdekkieajffblaaAD1
import Derived.Test.YtdekkieajffblaaRows
import Derived.Test.YtdekkieajffblaaW1
import Derived.ProofKit
import Derived.OpenShut
import Derived.ShutString
import Derived.ChangeOld
import Derived.Below
import Derived.Lib.SmallJoins
set_option linter.unusedVariables false
set_option linter.unusedSimpArgs false
set_option maxRecDepth 100000
namespace Go.Proofs.Ytdekkieajffblaa
open Go.RowKit

/-- Two integers that are handed in: are they good? -/
theorem two_good (neg neg' : Bool) (ao ao' : Option Addr) (n cap n' cap' : Nat) (l l' : List Nat) (w W : World) (g : Nat) (t : TypeId) (R : Row .u32 B32 w ao n cap l) (R' : Row .u32 B32 w ao' n' cap' l') (hb : Below w.heap.size w W) (hg : W.heap[g]? = some (.cells #[.bool neg, .slice ao n cap, .bool neg', .slice ao' n' cap'] t (0, 0))) :
    Calls Try.prog 7 #[.slice (some ⟨g, 0, none⟩) 2 2] W fun e w' => e = .returned (.bool (goodB neg l && goodB neg' l')) ∧ Below W.heap.size W w' := by
  have := zgood_any _ 2 2 _ W (zrow_two hg (R.below hb) (R'.below hb)) (by omega)
  have e : [(neg, l), (neg', l')].all goodZ = (goodB neg l && goodB neg' l') := by simp [goodZ]
  rw [e] at this
  exact this
set_option maxHeartbeats 8000000 in
theorem arithReckons_walk (op : Int) (neg : Bool) (ao : Option Addr) (n cap : Nat) (l : List Nat) (neg' : Bool) (ao' : Option Addr) (n' cap' : Nat) (l' : List Nat) (w : World) (ho1 : -9223372036854775808 ≤ op) (ho2 : op ≤ 9223372036854775807) (R : Row .u32 B32 w ao n cap l) (R' : Row .u32 B32 w ao' n' cap' l') :
    Calls Try.prog 3 #[.int .i64 op, .agg #[.bool neg, .slice ao n cap], .agg #[.bool neg', .slice ao' n' cap']] w fun e w' => e = .returned (.bool true) ∧ Below w.heap.size w w' := by
  have b0 := Baa w (.cells #[.bool neg, .slice ao n cap] 24) (.cells #[.bool neg', .slice ao' n' cap'] 24)
  have x1 := (Box.new 24 w neg ao n cap).alloc (.cells #[.bool neg', .slice ao' n' cap'] 24)
  have x2 := Box.new 24 (w.alloc (.cells #[.bool neg, .slice ao n cap] 24)) neg' ao' n' cap'
  rw [size_alloc] at x2
  obtain ⟨W0, hW0⟩ : ∃ W, W = (w.alloc (.cells #[.bool neg, .slice ao n cap] 24)).alloc (.cells #[.bool neg', .slice ao' n' cap'] 24) := ⟨_, rfl⟩
  rw [← hW0] at b0 x1 x2
  have hs0 : W0.heap.size = w.heap.size + 1 + 1 := by rw [hW0, size_alloc, size_alloc]
  have b1 := Ba W0 (.cells #[.bool neg, .slice ao n cap, .bool neg', .slice ao' n' cap'] 24)
  have hblk := blk_new W0 #[.bool neg, .slice ao n cap, .bool neg', .slice ao' n' cap'] 24
  rw [hs0] at hblk
  have CG := hid (two_good neg neg' ao ao' n cap n' cap' l l' w _ _ _ R R' (Bt b0 b1) hblk)
  obtain ⟨c0, c1⟩ := x1.c
  obtain ⟨c2, c3⟩ := x2.c
  have CA := hid (fun W : World => arawake_any W)
  have HB1 := hid (Bt b0 b1)
  have HX1 := hid (x1.on b1)
  have HX2 := hid (x2.on b1)
  have HA : Hid (goodB neg l = true → IsInt w (.agg #[.bool neg, .slice ao n cap]) (sgn neg (val B32 l))) := fun g => ⟨neg, l, ⟨ao, n, cap, rfl, R⟩, g, rfl⟩
  have HB : Hid (goodB neg' l' = true → IsInt w (.agg #[.bool neg', .slice ao' n' cap']) (sgn neg' (val B32 l'))) := fun g => ⟨neg', l', ⟨ao', n', cap', rfl, R'⟩, g, rfl⟩
  obtain ⟨a, ha⟩ : ∃ a, a = sgn neg (val B32 l) := ⟨_, rfl⟩
  obtain ⟨b, hb⟩ : ∃ a, a = sgn neg' (val B32 l') := ⟨_, rfl⟩
  obtain ⟨g1, hg1⟩ : ∃ g, g = goodB neg l := ⟨_, rfl⟩
  obtain ⟨g2, hg2⟩ : ∃ g, g = goodB neg' l' := ⟨_, rfl⟩
  rw [← ha, ← hg1] at HA
  rw [← hb, ← hg2] at HB
  rw [← hg1, ← hg2] at CG
  rw [hW0] at c0 c1 c2 c3 CG
  have HW0 := hid hW0
  clear R R' b0 b1 x1 x2 hblk hs0 ha hb hg1 hg2 hW0
  by_cases hg : (g1 && g2) = true
  · rw [hg] at CG
    rw [Bool.and_eq_true] at hg
    have HA := hid (HA.out hg.1)
    have HB := hid (HB.out hg.2)
    clear hg
    have CR : Hid (∀ W, Below w.heap.size w W → Calls Try.prog 9 #[.int .i64 op, .agg #[.bool neg, .slice ao n cap], .agg #[.bool neg', .slice ao' n' cap']] W (RkPost W (reckM op a b))) := fun W h => reckon_any op _ _ a b W (HA.out.below h) (HB.out.below h)
    have CD : Hid (∀ W, Below w.heap.size w W → Calls Try.prog 10 #[.int .i64 op, .agg #[.bool neg, .slice ao n cap], .agg #[.bool neg', .slice ao' n' cap']] W (RkPost W (reckM op a b))) := fun W h => rreckon_any op _ _ a b W (HA.out.below h) (HB.out.below h)
    unfold RkPost at CR CD
    obtain ⟨r, hr⟩ : ∃ r, r = reckM op a b := ⟨_, rfl⟩
    rw [← hr] at CR CD
    clear hr
    go_enter Try.func3, Try.ntmps3
    go_wp2_with fail
    (with_reducible refine CG.out.mono ?_)
    rintro e W1 ⟨rfl, v1⟩
    rw [← HW0.out] at v1
    have HB2 := hid (Bt HB1.out v1)
    have Y1 := hid (HX1.out.on v1)
    have Y2 := hid (HX2.out.on v1)
    clear c0 c1 c2 c3 v1 HX1 HX2 HB1
    obtain ⟨c0, c1⟩ := Y1.out.c
    obtain ⟨c2, c3⟩ := Y2.out.c
    go_wp2_with fail
    (with_reducible refine (CR.out W1 HB2.out).mono ?_)
    rintro e W2 ⟨s1, a1, n1, k1, rfl, i1, v2⟩
    have u2 := Ba W2 (.cells #[.bool s1, .slice a1 n1 k1] 24)
    have Z1 := hid (Box.new 24 W2 s1 a1 n1 k1)
    have I1 := hid (i1.below u2)
    have v2' := Bt v2 u2
    have Y3 := hid (Y1.out.on v2')
    have Y4 := hid (Y2.out.on v2')
    have HB3 := hid (Bt HB2.out v2')
    clear c0 c1 c2 c3 i1 v2 u2 v2' Y1 Y2 HB2
    obtain ⟨c0, c1⟩ := Y3.out.c
    obtain ⟨c2, c3⟩ := Y4.out.c
    go_wp2_with fail
    obtain ⟨gx, hgx⟩ : ∃ g, g = W2.heap.size := ⟨_, rfl⟩
    rw [← hgx] at Z1 ⊢
    generalize W2.alloc (.cells #[.bool s1, .slice a1 n1 k1] 24) = W2' at *
    clear hgx
    (with_reducible refine (CD.out W2' HB3.out).mono ?_)
    rintro e W3 ⟨s2, a2, n2, k2, rfl, i2, v3⟩
    have u3 := Ba W3 (.cells #[.bool s2, .slice a2 n2 k2] 24)
    have z2 := Box.new 24 W3 s2 a2 n2 k2
    have I2 := hid (i2.below u3)
    have v3' := Bt v3 u3
    have z1 := (Z1.out.on v3').c
    have y1 := (Y3.out.on v3').c
    have I1' := hid (I1.out.below v3')
    have HB4 := hid (Bt HB3.out v3')
    have z2c := z2.c
    clear c0 c1 c2 c3 i2 v3 u3 v3' Y3 Y4 HB3 I1 Z1 z2
    go_wp2_with fail
    obtain ⟨gy, hgy⟩ : ∃ g, g = W3.heap.size := ⟨_, rfl⟩
    rw [← hgy] at z2c ⊢
    generalize W3.alloc (.cells #[.bool s2, .slice a2 n2 k2] 24) = W at *
    clear hgy
    have hS0 : W.cell? ⟨gx, 0, none⟩ = some (.bool s1) ∧ W.cell? ⟨gx, 1, none⟩ = some (.slice a1 n1 k1) ∧ W.cell? ⟨gy, 0, none⟩ = some (.bool s2) ∧ W.cell? ⟨gy, 1, none⟩ = some (.slice a2 n2 k2) ∧ W.cell? ⟨w.heap.size, 0, none⟩ = some (.bool neg) ∧ W.cell? ⟨w.heap.size, 1, none⟩ = some (.slice ao n cap) ∧ Below W.heap.size W W := ⟨z1.1, z1.2, z2c.1, z2c.2, y1.1, y1.2, Below.refl _ _⟩
    have HS0 := hid hS0
    have HBEL : Hid (∀ wx, Below W.heap.size W wx → Below w.heap.size w wx) := fun wx h => Bt HB4.out h
    have HAW := hid (HA.out.below HB4.out)
    clear z1 z2c y1 hS0
    go_region_held3 (fun wx => wx.cell? ⟨gx, 0, none⟩ = some (.bool s1) ∧ wx.cell? ⟨gx, 1, none⟩ = some (.slice a1 n1 k1) ∧ wx.cell? ⟨gy, 0, none⟩ = some (.bool s2) ∧ wx.cell? ⟨gy, 1, none⟩ = some (.slice a2 n2 k2) ∧ wx.cell? ⟨w.heap.size, 0, none⟩ = some (.bool neg) ∧ wx.cell? ⟨w.heap.size, 1, none⟩ = some (.slice ao n cap) ∧ Below W.heap.size W wx)
      (first | exact six_on HS0.out (Bd W 1) | exact six_on (by assumption) (by assumption))
      (first
        | (go_at_call 11; (with_reducible refine (zsame_true _ _ r.1 _ ?_ ?_).mono ?_); (exact I1'.out.below (six_bel (p := gx) (q := gy) (r := w.heap.size) (a0 := .bool s1) (a1 := .slice a1 n1 k1) (b0 := .bool s2) (b1 := .slice a2 n2 k2) (c0 := .bool neg) (c1 := .slice ao n cap) (by assumption))); (exact I2.out.below (six_bel (p := gx) (q := gy) (r := w.heap.size) (a0 := .bool s1) (a1 := .slice a1 n1 k1) (b0 := .bool s2) (b1 := .slice a2 n2 k2) (c0 := .bool neg) (c1 := .slice ao n cap) (by assumption))); rintro e wa ⟨rfl, ba⟩)
        | (go_at_call 12; (with_reducible refine (aneed_any _ a _ ?_).mono ?_); (exact HAW.out.below (six_bel (p := gx) (q := gy) (r := w.heap.size) (a0 := .bool s1) (a1 := .slice a1 n1 k1) (b0 := .bool s2) (b1 := .slice a2 n2 k2) (c0 := .bool neg) (c1 := .slice ao n cap) (by assumption))); rintro e wb ⟨rfl, bb⟩)
        | (go_at_call 13; (with_reducible refine (rneed_any _ a _ ?_).mono ?_); (exact HAW.out.below (six_bel (p := gx) (q := gy) (r := w.heap.size) (a0 := .bool s1) (a1 := .slice a1 n1 k1) (b0 := .bool s2) (b1 := .slice a2 n2 k2) (c0 := .bool neg) (c1 := .slice ao n cap) (by assumption))); rintro e wc ⟨rfl, bc⟩)
        | (go_at_call 8; (with_reducible refine (CA.out _).mono ?_); rintro e wd ⟨rfl, bd⟩))
    all_goals
      have HBE : Hid (Below w.heap.size w wd) := HBEL.out _ (six_bel (p := gx) (q := gy) (r := w.heap.size) (a0 := .bool s1) (a1 := .slice a1 n1 k1) (b0 := .bool s2) (b1 := .slice a2 n2 k2) (c0 := .bool neg) (c1 := .slice ao n cap) (by assumption))
      rename_i hHeld
      clear hHeld
      go_wp2
      go_ret
      exact ⟨by simp, HBE.out⟩
  · have hg' : (g1 && g2) = false := by simpa using hg
    rw [hg'] at CG
    clear hg hg' HA HB
    go_enter Try.func3, Try.ntmps3
    go_wp2_with (first
      | (go_at_call 7; (with_reducible refine CG.out.mono ?_); rintro e W1 ⟨rfl, v1⟩; rw [← HW0.out] at v1; have HB2 := hid (Bt HB1.out v1); clear v1)
      | (go_at_call 8; (with_reducible refine (CA.out _).mono ?_); rintro e W2 ⟨rfl, v2⟩; have HB3 := hid (Bt HB2.out v2); clear v2))
    go_ret
    exact ⟨rfl, HB3.out⟩
end Go.Proofs.Ytdekkieajffblaa

set_option linter.unusedVariables false
set_option maxRecDepth 100000
set_option linter.unusedSimpArgs false
namespace Go.Proofs.Ytdekkieajffblaa
open Go.ChangeShapes Go.WideShapes Go.ChangeAt Go.RowKit Go.Joins

theorem own : ownKnob Try.prog.godebug = none := by kernel_rfl
theorem laidOut : laidOutB Try.prog = true := by kernel_rfl
theorem cellsInt : Try.prog.cellsOf 24 = 2 := by kernel_rfl

theorem wf_u32 {z : Int} (h : (Lit.int .u32 z).wf = true) : 0 ≤ z ∧ z < 4294967296 := by
  have := bounds_u32 h
  omega

theorem int_arg {H : Type} {enc : TypeId × Value → H} {W : World} {r : Reach} {b0 : Nat} {v : Value} {d : DataW H} {p : List MemPlace} {base : Nat} {spare : TypeId → Bool} {held : Bool}
    (hv : Value.okWide Try.prog W r b0 24 v) (h : DataW.Trod enc Try.prog W base spare held 24 v d p) :
    ∃ neg ao n cap l, v = .agg #[.bool neg, .slice ao n cap] ∧ Row .u32 B32 W ao n cap l := by
  obtain ⟨c0, c1, y0, y1, m, rfl, rfl, rfl, hy0, hy1⟩ := open_agg2 Try.underlying24 (by kernel_rfl) cellsInt hv h
  obtain ⟨b, e0, _⟩ := DataW.trod_bool Try.underlying4 hy0
  cases e0
  rcases open_ints Try.underlying22 Try.underlying62 (by kernel_rfl) hy1 with ⟨hcs, _⟩ | ⟨a, len, cap, zs, hcs, _, hl, hm, hz, _, hcell, hwz⟩
  · cases hcs
    exact ⟨b, none, 0, 0, [], rfl, Row.nil _ _ _ _⟩
  · cases hcs
    have hzl : len ≤ zs.length := by rw [hz]; split <;> omega
    have hlen : ((zs.take len).map Int.toNat).length = len := by rw [List.length_map, List.length_take, Nat.min_eq_left hzl]
    refine ⟨b, some a, len, cap, (zs.take len).map Int.toNat, rfl, hlen, hl, hm, fun h => (by cases h), ?_, ?_⟩
    · intro x hx
      obtain ⟨z, hz', rfl⟩ := List.mem_map.1 hx
      have := wf_u32 (hwz z (List.mem_of_mem_take hz'))
      unfold B32; omega
    · by_cases h0 : len = 0
      · subst h0; exact .inl (by simp)
      · have hc0 := hcell 0 (by omega)
        obtain ⟨bb, o, sp⟩ := a
        have hsp : sp = none := by
          cases sp with
          | none => rfl
          | some k =>
            exfalso
            simp [Addr.add, World.cell?] at hc0
            split at hc0 <;> simp_all
        subst hsp
        have hlt : bb < W.heap.size := World.block_lt_of_cell? W ⟨bb, o, none⟩ (by simpa [Addr.add] using hc0)
        refine .inr ⟨bb, o, rfl, hlt, fun i hi => ?_⟩
        rw [hlen] at hi
        have hci := hcell i (by omega)
        have h1 : W.cell? ⟨bb, o + i, none⟩ = W.cell? (Addr.add ⟨bb, o, none⟩ i) := by
          unfold Addr.add
          by_cases hi0 : i = 0
          · subst hi0; simp
          · rw [if_neg hi0]
        rw [h1, hci]
        have h2 : zs.getD i 0 = (((zs.take len).map Int.toNat).getD i 0 : Nat) := by
          rw [List.getD_eq_getElem?_getD, List.getD_eq_getElem?_getD, List.getElem?_map, List.getElem?_take, if_pos hi, List.getElem?_eq_getElem (by omega)]
          have := wf_u32 (hwz zs[i] (List.getElem_mem _))
          simp only [Option.map_some, Option.getD_some]
          omega
        rw [h2]

end Go.Proofs.Ytdekkieajffblaa
