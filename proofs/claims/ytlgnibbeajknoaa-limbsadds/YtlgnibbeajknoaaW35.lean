/-
  Walks, of the document's answer: Sub.
-/
import Derived.Test.YtlgnibbeajknoaaW33
import Derived.Test.YtlgnibbeajknoaaW34
import Derived.Test.YtlgnibbeajknoaaW22
set_option linter.unusedVariables false
set_option linter.unusedSimpArgs false
namespace Go.Proofs.Ytlgnibbeajknoaa
open Go.RowKit

theorem radd_is (x y : Value) (a b : Int) (w : World) (hx : IsInt w x a) (hy : IsInt w y b) : Calls Try.prog 23 #[x, y] w (AddPost w (a + b)) := by
  obtain ⟨s, ao, n, cap, l, rfl, R, g, rfl⟩ := hx.open_
  obtain ⟨s', ao', n', cap', l', rfl, R', g', rfl⟩ := hy.open_
  exact radd_any s s' ao ao' n cap n' cap' l l' w R R' (by rw [← R.len]; exact goodB_len g) (by rw [← R'.len]; exact goodB_len g')

set_option maxHeartbeats 4000000 in
theorem rsub_any (neg neg' : Bool) (ao ao' : Option Addr) (n cap n' cap' : Nat) (l l' : List Nat) (w : World) (R : Row .u32 B32 w ao n cap l) (R' : Row .u32 B32 w ao' n' cap' l') (g1 : goodB neg l = true) (g2 : goodB neg' l' = true) :
    Calls Try.prog 25 #[.agg #[.bool neg, .slice ao n cap], .agg #[.bool neg', .slice ao' n' cap']] w (AddPost w (sgn neg (val B32 l) + - sgn neg' (val B32 l'))) := by
  have HR := hid R
  have HR' := hid R'
  have G1 := hid g1
  have G2 := hid g2
  clear R R' g1 g2
  go_enter Try.func25, Try.ntmps25
  go_wp2_with fail
  obtain ⟨x1, x2, x3, hb0⟩ := three_boxes 24 w neg neg' false ao ao' none n cap n' cap' 0 0 _ rfl
  generalize hW0 : (((w.alloc (.cells #[.bool neg, .slice ao n cap] 24)).alloc (.cells #[.bool neg', .slice ao' n' cap'] 24)).alloc (.cells #[.bool false, .slice none 0 0] 24)) = W0 at *
  clear hW0
  have HS : Hid (W0.cell? ⟨w.heap.size, 0, none⟩ = some (.bool neg) ∧ W0.cell? ⟨w.heap.size, 1, none⟩ = some (.slice ao n cap) ∧ W0.cell? ⟨w.heap.size + 1, 0, none⟩ = some (.bool neg') ∧ W0.cell? ⟨w.heap.size + 1, 1, none⟩ = some (.slice ao' n' cap')) := ⟨x1.c.1, x1.c.2, x2.c.1, x2.c.2⟩
  have IA : Hid (IsInt W0 (.agg #[.bool neg, .slice ao n cap]) (sgn neg (val B32 l))) := ⟨neg, l, ⟨ao, n, cap, rfl, HR.out.below hb0⟩, G1.out, rfl⟩
  have RW' := hid (HR'.out.below hb0)
  have Y3 := hid x3
  have HB0 := hid hb0
  clear x1 x2 x3 hb0 HR HR'
  go_region_held3 (fun wx => wx.cell? ⟨w.heap.size, 0, none⟩ = some (.bool neg) ∧ wx.cell? ⟨w.heap.size, 1, none⟩ = some (.slice ao n cap) ∧ wx.cell? ⟨w.heap.size + 1, 0, none⟩ = some (.bool neg') ∧ wx.cell? ⟨w.heap.size + 1, 1, none⟩ = some (.slice ao' n' cap'))
    (first | exact keep4 HS.out (Bd W0 1) | exact keep4 (by assumption) (by assumption) | exact keep4s (by assumption) (by omega) (by omega))
    (first
      | (go_at_call 21; refine (rneg_any neg' ao' n' cap' l' _ ?_ G2.out).mono ?_; (exact RW'.out.below (Bd W0 1)); rintro e wa ⟨xb, rfl, ib, ba⟩; have IB := hid ib; clear ib)
      | (go_at_call 23; refine (radd_is (.agg #[.bool neg, .slice ao n cap]) xb (sgn neg (val B32 l)) (- sgn neg' (val B32 l')) _ ?_ ?_).mono ?_; (exact (IA.out.below (Bd W0 1)).below ba); (exact IB.out); rintro e wb ⟨x, en, rfl, hA, bb⟩; obtain ⟨sx, ax, nx, cx, lx, rfl, Rx, hAx⟩ := hA.form; have Z3 := ((Y3.out.on (Bd W0 1)).on ba).on bb; obtain ⟨z30, z31⟩ := Z3.c; obtain ⟨f30, f31⟩ := Z3.f; have HZ := hid Z3; have HRx := hid Rx; have HAx := hid hAx; clear hA Rx hAx Z3))
  have hbW : Below w.heap.size w wb := Bt (Bt (Bt HB0.out (Bd W0 1)) ba) bb
  have z := HZ.out.set2 sx ax nx cx
  obtain ⟨y0, y1⟩ := z.c
  have rx := HAx.out _ (HRx.out.setBox2 HZ.out sx (.slice ax nx cx))
  have bF := (hbW.setCell (p := ⟨w.heap.size + 1 + 1, 0, none⟩) (by simp; omega) (.bool sx)).setCell (p := ⟨w.heap.size + 1 + 1, 1, none⟩) (by simp; omega) (.slice ax nx cx)
  rename_i hHeld
  clear hHeld
  go_wp2
  exact bodyPost_ret (v := .tuple #[.agg #[.bool sx, .slice ax nx cx], .int .i64 en]) (by simp [results, Try.results25, go_sem, y0, y1]) rfl ⟨_, _, rfl, rx, bF⟩

end Go.Proofs.Ytlgnibbeajknoaa
