/-
  The walk of GraphShares.
-/
import Derived.Test.YtgoaaeiefpdkpaaDoorM4
import Derived.Test.YtgoaaeiefpdkpaaDoorH5
import Derived.Test.YtgoaaeiefpdkpaaDoorG21
import Derived.Test.YtgoaaeiefpdkpaaDoorG22
import Derived.Test.YtgoaaeiefpdkpaaDoorL1
set_option linter.unusedVariables false
set_option linter.unusedSimpArgs false
set_option maxRecDepth 100000
namespace Go.Proofs.YtgoaaeiefpdkpaaDoor
open Go.RowKit

theorem numB70 : numB 7 0 = true := by kernel_rfl
theorem textB70 : textB 7 ⟨#[]⟩ = true := by kernel_rfl
theorem s5_on {w1 wx wy : World} {p q r : Nat} {a0 a1 b0 b1 c0 : Value} (h : wx.cell? ⟨p, 0, none⟩ = some a0 ∧ wx.cell? ⟨p, 1, none⟩ = some a1 ∧ wx.cell? ⟨q, 0, none⟩ = some b0 ∧ wx.cell? ⟨q, 1, none⟩ = some b1 ∧ wx.cell? ⟨r, 0, none⟩ = some c0 ∧ Below w1.heap.size w1 wx) (hb : Below wx.heap.size wx wy) : wy.cell? ⟨p, 0, none⟩ = some a0 ∧ wy.cell? ⟨p, 1, none⟩ = some a1 ∧ wy.cell? ⟨q, 0, none⟩ = some b0 ∧ wy.cell? ⟨q, 1, none⟩ = some b1 ∧ wy.cell? ⟨r, 0, none⟩ = some c0 ∧ Below w1.heap.size w1 wy := by
  obtain ⟨h1, h2, h3, h4, h5, h7⟩ := h
  exact ⟨(hb.cell (p := ⟨p, 0, none⟩) (cell_lt h1)).trans h1, (hb.cell (p := ⟨p, 1, none⟩) (cell_lt h1)).trans h2, (hb.cell (p := ⟨q, 0, none⟩) (cell_lt h3)).trans h3, (hb.cell (p := ⟨q, 1, none⟩) (cell_lt h3)).trans h4, (hb.cell (p := ⟨r, 0, none⟩) (cell_lt h5)).trans h5, Bt h7 hb⟩
theorem s5_bel {w1 wx : World} {p q r : Nat} {a0 a1 b0 b1 c0 : Value} (h : wx.cell? ⟨p, 0, none⟩ = some a0 ∧ wx.cell? ⟨p, 1, none⟩ = some a1 ∧ wx.cell? ⟨q, 0, none⟩ = some b0 ∧ wx.cell? ⟨q, 1, none⟩ = some b1 ∧ wx.cell? ⟨r, 0, none⟩ = some c0 ∧ Below w1.heap.size w1 wx) : Below w1.heap.size w1 wx := h.2.2.2.2.2

set_option maxHeartbeats 4000000 in
theorem graphShares_walk (k m : Int) (t : ByteArray) (ak : Option Addr) (nk ck : Nat) (l : List Int) (w : World) (R : IRow w ak nk ck l) (hok : NdOk ⟨k, m, t, l⟩) (hT : Tabs w) :
    Calls Tryd.prog 7 #[.agg #[.int .i64 k, .int .i64 m, .string t, .slice ak nk ck]] w fun e w' => e = .returned (.bool true) ∧ Below w.heap.size w w' := by
  have HR := hid R
  have HT := hid hT
  have HOK := hid hok
  have hf := R.fits
  have hm := R.most
  have hts : t.size ≤ maxLen := hok.2.2
  have hln := R.len
  unfold maxLen at hm hts
  clear R hT hok
  by_cases ht : t.size ≤ 2000
  · by_cases hk : nk = 0
    · subst hk
      obtain rfl : l = [] := List.length_eq_zero_iff.1 hln
      go_enter Tryd.func7, Tryd.ntmps7
      go_wp2_with fail
      have bA : Below w.heap.size w (allocs w [(.cells #[.int .i64 k, .int .i64 m, .string t, .slice ak 0 ck] 34), (.cells #[.int .i64 0, .int .i64 0] 3), (.cells #[.int .i64 k, .int .i64 m, .string t, .slice ak 0 ck, .int .i64 7, .int .i64 0, .string ⟨#[]⟩, .slice (some ⟨w.heap.size + 1, 0, none⟩) 2 2] 34), (.cells #[.int .i64 1] 3), (.cells #[.slice (some ⟨w.heap.size + 1 + 1, 0, none⟩) 2 2, .slice (some ⟨w.heap.size + 1 + 1 + 1, 0, none⟩) 1 1] 25), (.cells #[.int .i64 0, .int .i64 1] 3), (.cells #[.int .i64 k, .int .i64 m, .string t, .slice ak 0 ck, .int .i64 k, .int .i64 m, .string t, .slice ak 0 ck, .int .i64 7, .int .i64 0, .string ⟨#[]⟩, .slice (some ⟨w.heap.size + 1 + 1 + 1 + 1 + 1, 0, none⟩) 2 2] 34), (.cells #[.int .i64 2] 3), (.cells #[.slice (some ⟨w.heap.size + 1 + 1 + 1 + 1 + 1 + 1, 0, none⟩) 3 3, .slice (some ⟨w.heap.size + 1 + 1 + 1 + 1 + 1 + 1 + 1, 0, none⟩) 1 1] 25)]) := allocs_below _ _
      have x0 : (allocs w [(.cells #[.int .i64 k, .int .i64 m, .string t, .slice ak 0 ck] 34), (.cells #[.int .i64 0, .int .i64 0] 3), (.cells #[.int .i64 k, .int .i64 m, .string t, .slice ak 0 ck, .int .i64 7, .int .i64 0, .string ⟨#[]⟩, .slice (some ⟨w.heap.size + 1, 0, none⟩) 2 2] 34), (.cells #[.int .i64 1] 3), (.cells #[.slice (some ⟨w.heap.size + 1 + 1, 0, none⟩) 2 2, .slice (some ⟨w.heap.size + 1 + 1 + 1, 0, none⟩) 1 1] 25), (.cells #[.int .i64 0, .int .i64 1] 3), (.cells #[.int .i64 k, .int .i64 m, .string t, .slice ak 0 ck, .int .i64 k, .int .i64 m, .string t, .slice ak 0 ck, .int .i64 7, .int .i64 0, .string ⟨#[]⟩, .slice (some ⟨w.heap.size + 1 + 1 + 1 + 1 + 1, 0, none⟩) 2 2] 34), (.cells #[.int .i64 2] 3), (.cells #[.slice (some ⟨w.heap.size + 1 + 1 + 1 + 1 + 1 + 1, 0, none⟩) 3 3, .slice (some ⟨w.heap.size + 1 + 1 + 1 + 1 + 1 + 1 + 1, 0, none⟩) 1 1] 25)]).heap[w.heap.size]? = some (.cells #[.int .i64 k, .int .i64 m, .string t, .slice ak 0 ck] 34 (0, 0)) := allocs_get (i := 0) rfl
      have x1 : (allocs w [(.cells #[.int .i64 k, .int .i64 m, .string t, .slice ak 0 ck] 34), (.cells #[.int .i64 0, .int .i64 0] 3), (.cells #[.int .i64 k, .int .i64 m, .string t, .slice ak 0 ck, .int .i64 7, .int .i64 0, .string ⟨#[]⟩, .slice (some ⟨w.heap.size + 1, 0, none⟩) 2 2] 34), (.cells #[.int .i64 1] 3), (.cells #[.slice (some ⟨w.heap.size + 1 + 1, 0, none⟩) 2 2, .slice (some ⟨w.heap.size + 1 + 1 + 1, 0, none⟩) 1 1] 25), (.cells #[.int .i64 0, .int .i64 1] 3), (.cells #[.int .i64 k, .int .i64 m, .string t, .slice ak 0 ck, .int .i64 k, .int .i64 m, .string t, .slice ak 0 ck, .int .i64 7, .int .i64 0, .string ⟨#[]⟩, .slice (some ⟨w.heap.size + 1 + 1 + 1 + 1 + 1, 0, none⟩) 2 2] 34), (.cells #[.int .i64 2] 3), (.cells #[.slice (some ⟨w.heap.size + 1 + 1 + 1 + 1 + 1 + 1, 0, none⟩) 3 3, .slice (some ⟨w.heap.size + 1 + 1 + 1 + 1 + 1 + 1 + 1, 0, none⟩) 1 1] 25)]).heap[w.heap.size + 1]? = some (.cells #[.int .i64 0, .int .i64 0] 3 (0, 0)) := allocs_get (i := 1) rfl
      have x2 : (allocs w [(.cells #[.int .i64 k, .int .i64 m, .string t, .slice ak 0 ck] 34), (.cells #[.int .i64 0, .int .i64 0] 3), (.cells #[.int .i64 k, .int .i64 m, .string t, .slice ak 0 ck, .int .i64 7, .int .i64 0, .string ⟨#[]⟩, .slice (some ⟨w.heap.size + 1, 0, none⟩) 2 2] 34), (.cells #[.int .i64 1] 3), (.cells #[.slice (some ⟨w.heap.size + 1 + 1, 0, none⟩) 2 2, .slice (some ⟨w.heap.size + 1 + 1 + 1, 0, none⟩) 1 1] 25), (.cells #[.int .i64 0, .int .i64 1] 3), (.cells #[.int .i64 k, .int .i64 m, .string t, .slice ak 0 ck, .int .i64 k, .int .i64 m, .string t, .slice ak 0 ck, .int .i64 7, .int .i64 0, .string ⟨#[]⟩, .slice (some ⟨w.heap.size + 1 + 1 + 1 + 1 + 1, 0, none⟩) 2 2] 34), (.cells #[.int .i64 2] 3), (.cells #[.slice (some ⟨w.heap.size + 1 + 1 + 1 + 1 + 1 + 1, 0, none⟩) 3 3, .slice (some ⟨w.heap.size + 1 + 1 + 1 + 1 + 1 + 1 + 1, 0, none⟩) 1 1] 25)]).heap[w.heap.size + 1 + 1]? = some (.cells #[.int .i64 k, .int .i64 m, .string t, .slice ak 0 ck, .int .i64 7, .int .i64 0, .string ⟨#[]⟩, .slice (some ⟨w.heap.size + 1, 0, none⟩) 2 2] 34 (0, 0)) := allocs_get (i := 2) rfl
      have x3 : (allocs w [(.cells #[.int .i64 k, .int .i64 m, .string t, .slice ak 0 ck] 34), (.cells #[.int .i64 0, .int .i64 0] 3), (.cells #[.int .i64 k, .int .i64 m, .string t, .slice ak 0 ck, .int .i64 7, .int .i64 0, .string ⟨#[]⟩, .slice (some ⟨w.heap.size + 1, 0, none⟩) 2 2] 34), (.cells #[.int .i64 1] 3), (.cells #[.slice (some ⟨w.heap.size + 1 + 1, 0, none⟩) 2 2, .slice (some ⟨w.heap.size + 1 + 1 + 1, 0, none⟩) 1 1] 25), (.cells #[.int .i64 0, .int .i64 1] 3), (.cells #[.int .i64 k, .int .i64 m, .string t, .slice ak 0 ck, .int .i64 k, .int .i64 m, .string t, .slice ak 0 ck, .int .i64 7, .int .i64 0, .string ⟨#[]⟩, .slice (some ⟨w.heap.size + 1 + 1 + 1 + 1 + 1, 0, none⟩) 2 2] 34), (.cells #[.int .i64 2] 3), (.cells #[.slice (some ⟨w.heap.size + 1 + 1 + 1 + 1 + 1 + 1, 0, none⟩) 3 3, .slice (some ⟨w.heap.size + 1 + 1 + 1 + 1 + 1 + 1 + 1, 0, none⟩) 1 1] 25)]).heap[w.heap.size + 1 + 1 + 1]? = some (.cells #[.int .i64 1] 3 (0, 0)) := allocs_get (i := 3) rfl
      have x4 : (allocs w [(.cells #[.int .i64 k, .int .i64 m, .string t, .slice ak 0 ck] 34), (.cells #[.int .i64 0, .int .i64 0] 3), (.cells #[.int .i64 k, .int .i64 m, .string t, .slice ak 0 ck, .int .i64 7, .int .i64 0, .string ⟨#[]⟩, .slice (some ⟨w.heap.size + 1, 0, none⟩) 2 2] 34), (.cells #[.int .i64 1] 3), (.cells #[.slice (some ⟨w.heap.size + 1 + 1, 0, none⟩) 2 2, .slice (some ⟨w.heap.size + 1 + 1 + 1, 0, none⟩) 1 1] 25), (.cells #[.int .i64 0, .int .i64 1] 3), (.cells #[.int .i64 k, .int .i64 m, .string t, .slice ak 0 ck, .int .i64 k, .int .i64 m, .string t, .slice ak 0 ck, .int .i64 7, .int .i64 0, .string ⟨#[]⟩, .slice (some ⟨w.heap.size + 1 + 1 + 1 + 1 + 1, 0, none⟩) 2 2] 34), (.cells #[.int .i64 2] 3), (.cells #[.slice (some ⟨w.heap.size + 1 + 1 + 1 + 1 + 1 + 1, 0, none⟩) 3 3, .slice (some ⟨w.heap.size + 1 + 1 + 1 + 1 + 1 + 1 + 1, 0, none⟩) 1 1] 25)]).heap[w.heap.size + 1 + 1 + 1 + 1]? = some (.cells #[.slice (some ⟨w.heap.size + 1 + 1, 0, none⟩) 2 2, .slice (some ⟨w.heap.size + 1 + 1 + 1, 0, none⟩) 1 1] 25 (0, 0)) := allocs_get (i := 4) rfl
      have x5 : (allocs w [(.cells #[.int .i64 k, .int .i64 m, .string t, .slice ak 0 ck] 34), (.cells #[.int .i64 0, .int .i64 0] 3), (.cells #[.int .i64 k, .int .i64 m, .string t, .slice ak 0 ck, .int .i64 7, .int .i64 0, .string ⟨#[]⟩, .slice (some ⟨w.heap.size + 1, 0, none⟩) 2 2] 34), (.cells #[.int .i64 1] 3), (.cells #[.slice (some ⟨w.heap.size + 1 + 1, 0, none⟩) 2 2, .slice (some ⟨w.heap.size + 1 + 1 + 1, 0, none⟩) 1 1] 25), (.cells #[.int .i64 0, .int .i64 1] 3), (.cells #[.int .i64 k, .int .i64 m, .string t, .slice ak 0 ck, .int .i64 k, .int .i64 m, .string t, .slice ak 0 ck, .int .i64 7, .int .i64 0, .string ⟨#[]⟩, .slice (some ⟨w.heap.size + 1 + 1 + 1 + 1 + 1, 0, none⟩) 2 2] 34), (.cells #[.int .i64 2] 3), (.cells #[.slice (some ⟨w.heap.size + 1 + 1 + 1 + 1 + 1 + 1, 0, none⟩) 3 3, .slice (some ⟨w.heap.size + 1 + 1 + 1 + 1 + 1 + 1 + 1, 0, none⟩) 1 1] 25)]).heap[w.heap.size + 1 + 1 + 1 + 1 + 1]? = some (.cells #[.int .i64 0, .int .i64 1] 3 (0, 0)) := allocs_get (i := 5) rfl
      have x6 : (allocs w [(.cells #[.int .i64 k, .int .i64 m, .string t, .slice ak 0 ck] 34), (.cells #[.int .i64 0, .int .i64 0] 3), (.cells #[.int .i64 k, .int .i64 m, .string t, .slice ak 0 ck, .int .i64 7, .int .i64 0, .string ⟨#[]⟩, .slice (some ⟨w.heap.size + 1, 0, none⟩) 2 2] 34), (.cells #[.int .i64 1] 3), (.cells #[.slice (some ⟨w.heap.size + 1 + 1, 0, none⟩) 2 2, .slice (some ⟨w.heap.size + 1 + 1 + 1, 0, none⟩) 1 1] 25), (.cells #[.int .i64 0, .int .i64 1] 3), (.cells #[.int .i64 k, .int .i64 m, .string t, .slice ak 0 ck, .int .i64 k, .int .i64 m, .string t, .slice ak 0 ck, .int .i64 7, .int .i64 0, .string ⟨#[]⟩, .slice (some ⟨w.heap.size + 1 + 1 + 1 + 1 + 1, 0, none⟩) 2 2] 34), (.cells #[.int .i64 2] 3), (.cells #[.slice (some ⟨w.heap.size + 1 + 1 + 1 + 1 + 1 + 1, 0, none⟩) 3 3, .slice (some ⟨w.heap.size + 1 + 1 + 1 + 1 + 1 + 1 + 1, 0, none⟩) 1 1] 25)]).heap[w.heap.size + 1 + 1 + 1 + 1 + 1 + 1]? = some (.cells #[.int .i64 k, .int .i64 m, .string t, .slice ak 0 ck, .int .i64 k, .int .i64 m, .string t, .slice ak 0 ck, .int .i64 7, .int .i64 0, .string ⟨#[]⟩, .slice (some ⟨w.heap.size + 1 + 1 + 1 + 1 + 1, 0, none⟩) 2 2] 34 (0, 0)) := allocs_get (i := 6) rfl
      have x7 : (allocs w [(.cells #[.int .i64 k, .int .i64 m, .string t, .slice ak 0 ck] 34), (.cells #[.int .i64 0, .int .i64 0] 3), (.cells #[.int .i64 k, .int .i64 m, .string t, .slice ak 0 ck, .int .i64 7, .int .i64 0, .string ⟨#[]⟩, .slice (some ⟨w.heap.size + 1, 0, none⟩) 2 2] 34), (.cells #[.int .i64 1] 3), (.cells #[.slice (some ⟨w.heap.size + 1 + 1, 0, none⟩) 2 2, .slice (some ⟨w.heap.size + 1 + 1 + 1, 0, none⟩) 1 1] 25), (.cells #[.int .i64 0, .int .i64 1] 3), (.cells #[.int .i64 k, .int .i64 m, .string t, .slice ak 0 ck, .int .i64 k, .int .i64 m, .string t, .slice ak 0 ck, .int .i64 7, .int .i64 0, .string ⟨#[]⟩, .slice (some ⟨w.heap.size + 1 + 1 + 1 + 1 + 1, 0, none⟩) 2 2] 34), (.cells #[.int .i64 2] 3), (.cells #[.slice (some ⟨w.heap.size + 1 + 1 + 1 + 1 + 1 + 1, 0, none⟩) 3 3, .slice (some ⟨w.heap.size + 1 + 1 + 1 + 1 + 1 + 1 + 1, 0, none⟩) 1 1] 25)]).heap[w.heap.size + 1 + 1 + 1 + 1 + 1 + 1 + 1]? = some (.cells #[.int .i64 2] 3 (0, 0)) := allocs_get (i := 7) rfl
      have x8 : (allocs w [(.cells #[.int .i64 k, .int .i64 m, .string t, .slice ak 0 ck] 34), (.cells #[.int .i64 0, .int .i64 0] 3), (.cells #[.int .i64 k, .int .i64 m, .string t, .slice ak 0 ck, .int .i64 7, .int .i64 0, .string ⟨#[]⟩, .slice (some ⟨w.heap.size + 1, 0, none⟩) 2 2] 34), (.cells #[.int .i64 1] 3), (.cells #[.slice (some ⟨w.heap.size + 1 + 1, 0, none⟩) 2 2, .slice (some ⟨w.heap.size + 1 + 1 + 1, 0, none⟩) 1 1] 25), (.cells #[.int .i64 0, .int .i64 1] 3), (.cells #[.int .i64 k, .int .i64 m, .string t, .slice ak 0 ck, .int .i64 k, .int .i64 m, .string t, .slice ak 0 ck, .int .i64 7, .int .i64 0, .string ⟨#[]⟩, .slice (some ⟨w.heap.size + 1 + 1 + 1 + 1 + 1, 0, none⟩) 2 2] 34), (.cells #[.int .i64 2] 3), (.cells #[.slice (some ⟨w.heap.size + 1 + 1 + 1 + 1 + 1 + 1, 0, none⟩) 3 3, .slice (some ⟨w.heap.size + 1 + 1 + 1 + 1 + 1 + 1 + 1, 0, none⟩) 1 1] 25)]).heap[w.heap.size + 1 + 1 + 1 + 1 + 1 + 1 + 1 + 1]? = some (.cells #[.slice (some ⟨w.heap.size + 1 + 1 + 1 + 1 + 1 + 1, 0, none⟩) 3 3, .slice (some ⟨w.heap.size + 1 + 1 + 1 + 1 + 1 + 1 + 1, 0, none⟩) 1 1] 25 (0, 0)) := allocs_get (i := 8) rfl
      have hWW : allocs w [(.cells #[.int .i64 k, .int .i64 m, .string t, .slice ak 0 ck] 34), (.cells #[.int .i64 0, .int .i64 0] 3), (.cells #[.int .i64 k, .int .i64 m, .string t, .slice ak 0 ck, .int .i64 7, .int .i64 0, .string ⟨#[]⟩, .slice (some ⟨w.heap.size + 1, 0, none⟩) 2 2] 34), (.cells #[.int .i64 1] 3), (.cells #[.slice (some ⟨w.heap.size + 1 + 1, 0, none⟩) 2 2, .slice (some ⟨w.heap.size + 1 + 1 + 1, 0, none⟩) 1 1] 25), (.cells #[.int .i64 0, .int .i64 1] 3), (.cells #[.int .i64 k, .int .i64 m, .string t, .slice ak 0 ck, .int .i64 k, .int .i64 m, .string t, .slice ak 0 ck, .int .i64 7, .int .i64 0, .string ⟨#[]⟩, .slice (some ⟨w.heap.size + 1 + 1 + 1 + 1 + 1, 0, none⟩) 2 2] 34), (.cells #[.int .i64 2] 3), (.cells #[.slice (some ⟨w.heap.size + 1 + 1 + 1 + 1 + 1 + 1, 0, none⟩) 3 3, .slice (some ⟨w.heap.size + 1 + 1 + 1 + 1 + 1 + 1 + 1, 0, none⟩) 1 1] 25)] = ((((((((w.alloc (.cells #[.int .i64 k, .int .i64 m, .string t, .slice ak 0 ck] 34)).alloc (.cells #[.int .i64 0, .int .i64 0] 3)).alloc (.cells #[.int .i64 k, .int .i64 m, .string t, .slice ak 0 ck, .int .i64 7, .int .i64 0, .string ⟨#[]⟩, .slice (some ⟨w.heap.size + 1, 0, none⟩) 2 2] 34)).alloc (.cells #[.int .i64 1] 3)).alloc (.cells #[.slice (some ⟨w.heap.size + 1 + 1, 0, none⟩) 2 2, .slice (some ⟨w.heap.size + 1 + 1 + 1, 0, none⟩) 1 1] 25)).alloc (.cells #[.int .i64 0, .int .i64 1] 3)).alloc (.cells #[.int .i64 k, .int .i64 m, .string t, .slice ak 0 ck, .int .i64 k, .int .i64 m, .string t, .slice ak 0 ck, .int .i64 7, .int .i64 0, .string ⟨#[]⟩, .slice (some ⟨w.heap.size + 1 + 1 + 1 + 1 + 1, 0, none⟩) 2 2] 34)).alloc (.cells #[.int .i64 2] 3)).alloc (.cells #[.slice (some ⟨w.heap.size + 1 + 1 + 1 + 1 + 1 + 1, 0, none⟩) 3 3, .slice (some ⟨w.heap.size + 1 + 1 + 1 + 1 + 1 + 1 + 1, 0, none⟩) 1 1] 25) := rfl
      rw [← hWW]
      clear hWW
      generalize allocs w [(.cells #[.int .i64 k, .int .i64 m, .string t, .slice ak 0 ck] 34), (.cells #[.int .i64 0, .int .i64 0] 3), (.cells #[.int .i64 k, .int .i64 m, .string t, .slice ak 0 ck, .int .i64 7, .int .i64 0, .string ⟨#[]⟩, .slice (some ⟨w.heap.size + 1, 0, none⟩) 2 2] 34), (.cells #[.int .i64 1] 3), (.cells #[.slice (some ⟨w.heap.size + 1 + 1, 0, none⟩) 2 2, .slice (some ⟨w.heap.size + 1 + 1 + 1, 0, none⟩) 1 1] 25), (.cells #[.int .i64 0, .int .i64 1] 3), (.cells #[.int .i64 k, .int .i64 m, .string t, .slice ak 0 ck, .int .i64 k, .int .i64 m, .string t, .slice ak 0 ck, .int .i64 7, .int .i64 0, .string ⟨#[]⟩, .slice (some ⟨w.heap.size + 1 + 1 + 1 + 1 + 1, 0, none⟩) 2 2] 34), (.cells #[.int .i64 2] 3), (.cells #[.slice (some ⟨w.heap.size + 1 + 1 + 1 + 1 + 1 + 1, 0, none⟩) 3 3, .slice (some ⟨w.heap.size + 1 + 1 + 1 + 1 + 1 + 1 + 1, 0, none⟩) 1 1] 25)] = W at *
      obtain ⟨p8, h8⟩ : ∃ g, g = w.heap.size + 1 + 1 + 1 + 1 + 1 + 1 + 1 + 1 := ⟨_, rfl⟩
      obtain ⟨p7, h7⟩ : ∃ g, g = w.heap.size + 1 + 1 + 1 + 1 + 1 + 1 + 1 := ⟨_, rfl⟩
      obtain ⟨p6, h6⟩ : ∃ g, g = w.heap.size + 1 + 1 + 1 + 1 + 1 + 1 := ⟨_, rfl⟩
      obtain ⟨p5, h5⟩ : ∃ g, g = w.heap.size + 1 + 1 + 1 + 1 + 1 := ⟨_, rfl⟩
      obtain ⟨p4, h4⟩ : ∃ g, g = w.heap.size + 1 + 1 + 1 + 1 := ⟨_, rfl⟩
      obtain ⟨p3, h3⟩ : ∃ g, g = w.heap.size + 1 + 1 + 1 := ⟨_, rfl⟩
      obtain ⟨p2, h2⟩ : ∃ g, g = w.heap.size + 1 + 1 := ⟨_, rfl⟩
      obtain ⟨p1, h1⟩ : ∃ g, g = w.heap.size + 1 := ⟨_, rfl⟩
      obtain ⟨p0, h0⟩ : ∃ g, g = w.heap.size := ⟨_, rfl⟩
      rw [← h8, ← h7, ← h6, ← h5, ← h4, ← h3, ← h2, ← h1, ← h0]
      rw [← h0] at x0
      rw [← h1] at x1
      rw [← h2, ← h1] at x2
      rw [← h3] at x3
      rw [← h4, ← h3, ← h2] at x4
      rw [← h5] at x5
      rw [← h6, ← h5] at x6
      rw [← h7] at x7
      rw [← h8, ← h7, ← h6] at x8
      clear h0 h1 h2 h3 h4 h5 h6 h7 h8
      have i0 : IRow W ak 0 ck [] := HR.out.below bA
      have d7 : NdOk ⟨7, 0, ⟨#[]⟩, [0, 0]⟩ := by unfold NdOk I64 maxLen; decide
      have d8 : NdOk ⟨7, 0, ⟨#[]⟩, [0, 1]⟩ := by unfold NdOk I64 maxLen; decide
      have i1 : IRow W (some ⟨p1, 0, none⟩) 2 2 [0, 0] := lit_ints x1 rfl rfl (by omega) (by intro z hz; simp at hz; unfold I64; omega)
      have i5 : IRow W (some ⟨p5, 0, none⟩) 2 2 [0, 1] := lit_ints x5 rfl rfl (by omega) ok01
      have i3 : IRow W (some ⟨p3, 0, none⟩) 1 1 [1] := lit_ints x3 rfl rfl (by omega) ok1
      have i7 : IRow W (some ⟨p7, 0, none⟩) 1 1 [2] := lit_ints x7 rfl rfl (by omega) (by intro z hz; simp at hz; unfold I64; omega)
      have n2 : NRow W (some ⟨p2, 0, none⟩) 2 2 (gOne ⟨k, m, t, []⟩) := lit_nrow (l := [(⟨k, m, t, []⟩, ak, 0, ck), (⟨7, 0, ⟨#[]⟩, [0, 0]⟩, some ⟨p1, 0, none⟩, 2, 2)]) x2 rfl rfl (by omega)
        (by intro x hx; simp at hx; rcases hx with rfl | rfl <;> assumption) (by intro x hx; simp at hx; rcases hx with rfl | rfl; exact HOK.out; exact d7)
      have n6 : NRow W (some ⟨p6, 0, none⟩) 3 3 (gTwo ⟨k, m, t, []⟩) := lit_nrow (l := [(⟨k, m, t, []⟩, ak, 0, ck), (⟨k, m, t, []⟩, ak, 0, ck), (⟨7, 0, ⟨#[]⟩, [0, 1]⟩, some ⟨p5, 0, none⟩, 2, 2)]) x6 rfl rfl (by omega)
        (by intro x hx; simp at hx; rcases hx with rfl | rfl <;> assumption) (by intro x hx; simp at hx; rcases hx with rfl | rfl; exact HOK.out; exact d8)
      have sm2 : smallG (gOne ⟨k, m, t, []⟩) ∧ ∀ d ∈ gOne ⟨k, m, t, []⟩, d.kids.length ≤ 100 := by
        refine ⟨fun d hd => ?_, fun d hd => ?_⟩ <;> (simp [gOne] at hd; rcases hd with rfl | rfl <;> first | exact ht | exact Nat.zero_le _ | decide)
      have sm6 : smallG (gTwo ⟨k, m, t, []⟩) ∧ ∀ d ∈ gTwo ⟨k, m, t, []⟩, d.kids.length ≤ 100 := by
        refine ⟨fun d hd => ?_, fun d hd => ?_⟩ <;> (simp [gTwo] at hd; rcases hd with rfl | rfl <;> first | exact ht | exact Nat.zero_le _ | decide)
      have G1 : Hid (GOk W (some ⟨p2, 0, none⟩) 2 2 (some ⟨p3, 0, none⟩) 1 1 (gOne ⟨k, m, t, []⟩) [1]) := ⟨⟨n2, i3⟩, sm2.1, sm2.2, by omega, by omega⟩
      have G2 : Hid (GOk W (some ⟨p6, 0, none⟩) 3 3 (some ⟨p7, 0, none⟩) 1 1 (gTwo ⟨k, m, t, []⟩) [2]) := ⟨⟨n6, i7⟩, sm6.1, sm6.2, by omega, by omega⟩
      have HBW := hid bA
      have TW := hid (HT.out.below bA)
      have X0 := hid x0
      have X4 := hid x4
      have X8 := hid x8
      clear x0 x1 x2 x3 x4 x5 x6 x7 x8 i0 i1 i3 i5 i7 n2 n6 d7 d8 sm2 sm6 bA HR HT
      refine (rgood_g (some ⟨p2, 0, none⟩) (some ⟨p3, 0, none⟩) 2 2 1 1 (gOne ⟨k, m, t, []⟩) [1] W G1.out.is G1.out.small (by omega)).mono ?_
      rintro e w2 ⟨rfl, b2⟩
      have HB2 := hid b2
      have Y0 := (b2.block p0 (Array.getElem?_eq_some_iff.1 X0.out).1).trans X0.out
      have Y4 := (b2.block p4 (Array.getElem?_eq_some_iff.1 X4.out).1).trans X4.out
      have Y8 := (b2.block p8 (Array.getElem?_eq_some_iff.1 X8.out).1).trans X8.out
      have c0 : w2.cell? ⟨p0, 0, none⟩ = some (.int .i64 k) := blk_cell Y0 0
      have c40 : w2.cell? ⟨p4, 0, none⟩ = some (.slice (some ⟨p2, 0, none⟩) 2 2) := blk_cell Y4 0
      have c41 : w2.cell? ⟨p4, 1, none⟩ = some (.slice (some ⟨p3, 0, none⟩) 1 1) := blk_cell Y4 1
      have c80 : w2.cell? ⟨p8, 0, none⟩ = some (.slice (some ⟨p6, 0, none⟩) 3 3) := blk_cell Y8 0
      have c81 : w2.cell? ⟨p8, 1, none⟩ = some (.slice (some ⟨p7, 0, none⟩) 1 1) := blk_cell Y8 1
      clear b2 Y0 Y4 Y8
      obtain ⟨gd, hgd⟩ : ∃ gd, gd = goodG (gOne ⟨k, m, t, []⟩) [1] := ⟨_, rfl⟩
      rw [← hgd]
      have HGD := hid hgd
      clear hgd
      cases gd
      · have HSM : Hid (sameGB (gOne ⟨k, m, t, []⟩) [1] (gOne ⟨k, m, t, []⟩) [1] = false) := by unfold Hid sameGB; rw [← HGD.out]; rfl
        go_wp2_with fail
        refine (same_g _ _ 2 2 1 1 (gOne ⟨k, m, t, []⟩) [1] _ _ 2 2 1 1 (gOne ⟨k, m, t, []⟩) [1] w2 (G1.out.below HB2.out) (G1.out.below HB2.out) (TW.out.below HB2.out)).mono ?_
        rintro e w3 ⟨rfl, b3⟩
        rw [HSM.out]
        have HB3 := hid (Bt HB2.out b3)
        clear b3 c0 c40 c41 c80 c81
        go_wp2_with (go_at_call 13; refine (wakes_any _ (TW.out.below HB3.out)).mono ?_; rintro e w9 ⟨rfl, b9⟩)
        go_ret
        exact ⟨rfl, Bt HBW.out (Bt HB3.out b9)⟩
      · have hg2 := good_two (d := ⟨k, m, t, []⟩) rfl numB70 textB70 HGD.out.symm
        have HSM : Hid (sameGB (gOne ⟨k, m, t, []⟩) [1] (gTwo ⟨k, m, t, []⟩) [2] = atomB k) := by
          unfold Hid sameGB
          rw [← HGD.out, hg2]
          cases ha : atomB k
          · have := shares_other (d := ⟨k, m, t, []⟩) rfl ha HGD.out.symm hg2
            unfold canonN
            rw [decide_eq_false this]; rfl
          · have := shares_atom (d := ⟨k, m, t, []⟩) rfl ha HGD.out.symm hg2
            unfold canonN
            rw [this]; simp
        obtain ⟨at_, hat⟩ : ∃ a, a = atomB k := ⟨_, rfl⟩
        have C1 : Hid (∀ wx, Below w2.heap.size w2 wx → Calls Tryd.prog 17 #[.agg #[.slice (some ⟨p2, 0, none⟩) 2 2, .slice (some ⟨p3, 0, none⟩) 1 1], .agg #[.slice (some ⟨p6, 0, none⟩) 3 3, .slice (some ⟨p7, 0, none⟩) 1 1]] wx fun e w' => e = .returned (.bool at_) ∧ Below wx.heap.size wx w') := fun wx b => by
          have := same_g (some ⟨p2, 0, none⟩) (some ⟨p3, 0, none⟩) 2 2 1 1 (gOne ⟨k, m, t, []⟩) [1] (some ⟨p6, 0, none⟩) (some ⟨p7, 0, none⟩) 3 3 1 1 (gTwo ⟨k, m, t, []⟩) [2] wx (G1.out.below (Bt HB2.out b)) (G2.out.below (Bt HB2.out b)) (TW.out.below (Bt HB2.out b))
          rw [HSM.out, ← hat] at this; exact this
        have C2 : Hid (∀ wx, Calls Tryd.prog 21 #[.int .i64 k] wx fun e w' => e = .returned (.bool at_) ∧ Below wx.heap.size wx w') := fun wx => by rw [hat]; exact (ratom_any k wx).mono (fun e w' h => ⟨h.1, h.2 ▸ Below.refl _ _⟩)
        have e3 : (at_ == at_) = true := by simp
        have HS0 : Hid (w2.cell? ⟨p4, 0, none⟩ = some (.slice (some ⟨p2, 0, none⟩) 2 2) ∧ w2.cell? ⟨p4, 1, none⟩ = some (.slice (some ⟨p3, 0, none⟩) 1 1) ∧ w2.cell? ⟨p8, 0, none⟩ = some (.slice (some ⟨p6, 0, none⟩) 3 3) ∧ w2.cell? ⟨p8, 1, none⟩ = some (.slice (some ⟨p7, 0, none⟩) 1 1) ∧ w2.cell? ⟨p0, 0, none⟩ = some (.int .i64 k) ∧ Below w2.heap.size w2 w2) := ⟨c40, c41, c80, c81, c0, Below.refl _ _⟩
        clear hat c0 c40 c41 c80 c81 hg2
        go_wp2_with fail
        go_region_held3 (fun wx => wx.cell? ⟨p4, 0, none⟩ = some (.slice (some ⟨p2, 0, none⟩) 2 2) ∧ wx.cell? ⟨p4, 1, none⟩ = some (.slice (some ⟨p3, 0, none⟩) 1 1) ∧ wx.cell? ⟨p8, 0, none⟩ = some (.slice (some ⟨p6, 0, none⟩) 3 3) ∧ wx.cell? ⟨p8, 1, none⟩ = some (.slice (some ⟨p7, 0, none⟩) 1 1) ∧ wx.cell? ⟨p0, 0, none⟩ = some (.int .i64 k) ∧ Below w2.heap.size w2 wx)
          (first | exact s5_on HS0.out (Bd w2 1) | exact s5_on (by assumption) (by assumption))
          (first
            | (go_at_call 17; with_reducible refine (C1.out _ ?_).mono ?_; (exact s5_bel (p := p4) (q := p8) (r := p0) (a0 := .slice (some ⟨p2, 0, none⟩) 2 2) (a1 := .slice (some ⟨p3, 0, none⟩) 1 1) (b0 := .slice (some ⟨p6, 0, none⟩) 3 3) (b1 := .slice (some ⟨p7, 0, none⟩) 1 1) (c0 := .int .i64 k) (by assumption)); rintro e wa ⟨rfl, ba⟩)
            | (go_at_call 21; with_reducible refine (C2.out _).mono ?_; rintro e wb ⟨rfl, bb⟩)
            | (go_at_call 13; refine (wakes_any _ ?_).mono ?_; (exact TW.out.below (Bt HB2.out (s5_bel (p := p4) (q := p8) (r := p0) (a0 := .slice (some ⟨p2, 0, none⟩) 2 2) (a1 := .slice (some ⟨p3, 0, none⟩) 1 1) (b0 := .slice (some ⟨p6, 0, none⟩) 3 3) (b1 := .slice (some ⟨p7, 0, none⟩) 1 1) (c0 := .int .i64 k) (by assumption)))); rintro e wc ⟨rfl, bc⟩))
        have HBE : Hid (Below w.heap.size w wc) := Bt HBW.out (Bt HB2.out (s5_bel (p := p4) (q := p8) (r := p0) (a0 := .slice (some ⟨p2, 0, none⟩) 2 2) (a1 := .slice (some ⟨p3, 0, none⟩) 1 1) (b0 := .slice (some ⟨p6, 0, none⟩) 3 3) (b1 := .slice (some ⟨p7, 0, none⟩) 1 1) (c0 := .int .i64 k) (by assumption)))
        rename_i hHeld
        clear hHeld
        go_wp2
        go_ret
        exact ⟨rfl, HBE.out⟩
    · go_enter Tryd.func7, Tryd.ntmps7
      go_wp2
      go_ret
      exact ⟨rfl, Ba _ _⟩
  · go_enter Tryd.func7, Tryd.ntmps7
    go_wp2
    go_ret
    exact ⟨rfl, Ba _ _⟩
end Go.Proofs.YtgoaaeiefpdkpaaDoor
