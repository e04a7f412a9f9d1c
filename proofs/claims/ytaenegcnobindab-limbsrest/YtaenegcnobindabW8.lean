/-
  Walks, of the document's answer: From.
-/
import Derived.Test.YtaenegcnobindabW7
set_option linter.unusedVariables false
set_option linter.unusedSimpArgs false
namespace Go.Proofs.Ytaenegcnobindab
open Go.RowKit

def b8 (d : Nat) : List Nat := [d % 256, d / 256 % 256, d / 65536 % 256, d / 16777216 % 256, d / 4294967296 % 256, d / 1099511627776 % 256, d / 281474976710656 % 256, d / 72057594037927936 % 256]
theorem b8_val (d : Nat) (h : d < 18446744073709551616) : val 256 (b8 d) = d := by
  simp only [b8, val]; omega
theorem b8_dg (d : Nat) : Dg 256 (b8 d) := by
  intro x hx
  simp only [b8, List.mem_cons, List.not_mem_nil, or_false] at hx
  omega
theorem not_big_64 (d : Nat) (h : d < 18446744073709551616) : ¬ Big d := by
  unfold Big
  have h1 : B32 ^ 2 ≤ B32 ^ 40 := Nat.pow_le_pow_right (by decide) (by decide)
  have h2 : B32 ^ 2 = 18446744073709551616 := by decide
  omega

set_option maxHeartbeats 4000000 in
theorem rfrom_core (n : Int) (u : Nat) (neg : Bool) (w : World) (hub : u ≤ 18446744073709551615) (hu : u = n.natAbs) (e0 : decide (n < 0) = neg) (hc : neg = true ∧ n < 0 ∧ IntKind.u64.wrap (-IntKind.u64.wrap n) = (u : Int) ∨ neg = false ∧ n = (u : Int)) :
    Calls Try.prog 22 #[.int .i64 n] w fun e w' => ∃ x l, e = .returned x ∧ IntIs w' x (decide (n < 0) && decide (l ≠ [])) l ∧ Tr l ∧ val B32 l = n.natAbs ∧ Below w.heap.size w w' := by
  have HU := hid hu
  clear hu
  rcases hc with ⟨rfl, hneg, hw⟩ | ⟨rfl, rfl⟩
  all_goals
    go_enter Try.func22, Try.ntmps22
    go_wp2
    go_loopw [4, 5] (fun v i wr => ∃ k : Nat, k ≤ 8 ∧ i = .int .i64 k ∧ Hid (wr.ownsRow (w.heap.size + 1) 5 1 v k (cs .u8 ([] ++ (b8 u).take k)) ∧ Below (w.heap.size + 1) (w.alloc (.cells #[.bool false, .slice none 0 0] 24)) wr)) (fun _ i _ => 8 - (intOf i).toNat)
    case atStart => exact ⟨0, by omega, rfl, by simpa [cs] using World.ownsRow_nil _ _ _ _, Below.refl _ _⟩
    case round =>
      obtain ⟨k, hk, rfl, hI⟩ := hrel
      have hsz : Hid (w.heap.size + 1 ≤ wr.heap.size) := by have := hI.out.2.size; unfold Hid; simpa using this
      by_cases hk8 : k < 8
      · obtain ⟨hI1, hI2⟩ := hI.out
        have HI1 := hid hI1
        have HI2 := hid hI2
        clear hI hI1 hI2
        have hk' : k = 0 ∨ k = 1 ∨ k = 2 ∨ k = 3 ∨ k = 4 ∨ k = 5 ∨ k = 6 ∨ k = 7 := by omega
        rcases hk' with rfl | rfl | rfl | rfl | rfl | rfl | rfl | rfl
        · go_wp2_with (at_builtin; refine app1 rfl _ _ 54 rfl (w.heap.size + 1) 5 .u8 1 (by decide) Try.underlying54 info_u8 _ _ _ rfl (HI1.out.alloc _) ⟨wr.heap.size, 0, none⟩ 1 ((b8 u).getD 0 0) rfl ?c0 (by omega) (by have := hsz.out; simp; omega) ?_; rotate_right; intro g cap' w1 hown hbel)
          case c0 => rw [cell_new]; simp [b8] <;> omega
          case roundEnd => exact ⟨⟨1, by omega, rfl, own_step (l := []) (r := b8 u) hown (by omega) (by simp [b8]), (HI2.out.alloc hsz.out _).trans hbel⟩, by simp [intOf]⟩
        · go_wp2_with (at_builtin; refine app1 rfl _ _ 54 rfl (w.heap.size + 1) 5 .u8 1 (by decide) Try.underlying54 info_u8 _ _ _ rfl (HI1.out.alloc _) ⟨wr.heap.size, 0, none⟩ 1 ((b8 u).getD 1 0) rfl ?c1 (by omega) (by have := hsz.out; simp; omega) ?_; rotate_right; intro g cap' w1 hown hbel)
          case c1 => rw [cell_new]; simp [b8] <;> omega
          case roundEnd => exact ⟨⟨2, by omega, rfl, own_step (l := []) (r := b8 u) hown (by omega) (by simp [b8]), (HI2.out.alloc hsz.out _).trans hbel⟩, by simp [intOf]⟩
        · go_wp2_with (at_builtin; refine app1 rfl _ _ 54 rfl (w.heap.size + 1) 5 .u8 1 (by decide) Try.underlying54 info_u8 _ _ _ rfl (HI1.out.alloc _) ⟨wr.heap.size, 0, none⟩ 1 ((b8 u).getD 2 0) rfl ?c2 (by omega) (by have := hsz.out; simp; omega) ?_; rotate_right; intro g cap' w1 hown hbel)
          case c2 => rw [cell_new]; simp [b8] <;> omega
          case roundEnd => exact ⟨⟨3, by omega, rfl, own_step (l := []) (r := b8 u) hown (by omega) (by simp [b8]), (HI2.out.alloc hsz.out _).trans hbel⟩, by simp [intOf]⟩
        · go_wp2_with (at_builtin; refine app1 rfl _ _ 54 rfl (w.heap.size + 1) 5 .u8 1 (by decide) Try.underlying54 info_u8 _ _ _ rfl (HI1.out.alloc _) ⟨wr.heap.size, 0, none⟩ 1 ((b8 u).getD 3 0) rfl ?c3 (by omega) (by have := hsz.out; simp; omega) ?_; rotate_right; intro g cap' w1 hown hbel)
          case c3 => rw [cell_new]; simp [b8] <;> omega
          case roundEnd => exact ⟨⟨4, by omega, rfl, own_step (l := []) (r := b8 u) hown (by omega) (by simp [b8]), (HI2.out.alloc hsz.out _).trans hbel⟩, by simp [intOf]⟩
        · go_wp2_with (at_builtin; refine app1 rfl _ _ 54 rfl (w.heap.size + 1) 5 .u8 1 (by decide) Try.underlying54 info_u8 _ _ _ rfl (HI1.out.alloc _) ⟨wr.heap.size, 0, none⟩ 1 ((b8 u).getD 4 0) rfl ?c4 (by omega) (by have := hsz.out; simp; omega) ?_; rotate_right; intro g cap' w1 hown hbel)
          case c4 => rw [cell_new]; simp [b8] <;> omega
          case roundEnd => exact ⟨⟨5, by omega, rfl, own_step (l := []) (r := b8 u) hown (by omega) (by simp [b8]), (HI2.out.alloc hsz.out _).trans hbel⟩, by simp [intOf]⟩
        · go_wp2_with (at_builtin; refine app1 rfl _ _ 54 rfl (w.heap.size + 1) 5 .u8 1 (by decide) Try.underlying54 info_u8 _ _ _ rfl (HI1.out.alloc _) ⟨wr.heap.size, 0, none⟩ 1 ((b8 u).getD 5 0) rfl ?c5 (by omega) (by have := hsz.out; simp; omega) ?_; rotate_right; intro g cap' w1 hown hbel)
          case c5 => rw [cell_new]; simp [b8] <;> omega
          case roundEnd => exact ⟨⟨6, by omega, rfl, own_step (l := []) (r := b8 u) hown (by omega) (by simp [b8]), (HI2.out.alloc hsz.out _).trans hbel⟩, by simp [intOf]⟩
        · go_wp2_with (at_builtin; refine app1 rfl _ _ 54 rfl (w.heap.size + 1) 5 .u8 1 (by decide) Try.underlying54 info_u8 _ _ _ rfl (HI1.out.alloc _) ⟨wr.heap.size, 0, none⟩ 1 ((b8 u).getD 6 0) rfl ?c6 (by omega) (by have := hsz.out; simp; omega) ?_; rotate_right; intro g cap' w1 hown hbel)
          case c6 => rw [cell_new]; simp [b8] <;> omega
          case roundEnd => exact ⟨⟨7, by omega, rfl, own_step (l := []) (r := b8 u) hown (by omega) (by simp [b8]), (HI2.out.alloc hsz.out _).trans hbel⟩, by simp [intOf]⟩
        · go_wp2_with (at_builtin; refine app1 rfl _ _ 54 rfl (w.heap.size + 1) 5 .u8 1 (by decide) Try.underlying54 info_u8 _ _ _ rfl (HI1.out.alloc _) ⟨wr.heap.size, 0, none⟩ 1 ((b8 u).getD 7 0) rfl ?c7 (by omega) (by have := hsz.out; simp; omega) ?_; rotate_right; intro g cap' w1 hown hbel)
          case c7 => rw [cell_new]; simp [b8] <;> omega
          case roundEnd => exact ⟨⟨8, by omega, rfl, own_step (l := []) (r := b8 u) hown (by omega) (by simp [b8]), (HI2.out.alloc hsz.out _).trans hbel⟩, by simp [intOf]⟩
      · obtain rfl : k = 8 := by omega
        obtain ⟨ao', cap', hv, hO⟩ := own_of hI.out.1 (B := 256) (by simpa [b8] using b8_dg u)
        subst hv
        have HO := hid hO
        clear hO
        have hb0 : Hid (Below w.heap.size w wr) := (Ba w _).trans (hI.out.2.mono (Nat.le_succ _))
        have hd0 := (hI.out.2.block w.heap.size (by omega)).trans (blk_new _ _ _)
        have HD0 := hid hd0
        clear hd0
        go_wp2_with fail
        refine (rwhole_any _ ao' 8 cap' _ wr HO.out.row (by omega)).mono ?_
        rintro e w1 ⟨x, en, rfl, hA, hb⟩
        have hval : val 256 ([] ++ (b8 u).take 8) = u := by
          have : [] ++ (b8 u).take 8 = b8 u := rfl
          rw [this]; exact b8_val u (by omega)
        rw [hval] at hA
        rcases hA with ⟨_, rfl, l, hI2, ht, hv⟩ | ⟨hbig, _⟩
        · obtain ⟨ao2, n2, cap2, sg, rfl, HSG, R2⟩ := hI2.open_
          have hd1 := (hb.block w.heap.size (Array.getElem?_eq_some_iff.1 HD0.out).1).trans HD0.out
          have hq0 := blk_cell hd1 0
          have hq1 := blk_cell hd1 1
          have hqf0 := blk_free hd1 0
          have hqf1 := blk_free hd1 1
          have hlt1 : w.heap.size < w1.heap.size := (Array.getElem?_eq_some_iff.1 hd1).1
          simp at hq0 hq1
          have HR := hid R2
          have HT := hid ht
          have HVv := hid hv
          have HB := hid (Bt hb0.out hb)
          have HD1 := hid hd1
          clear hd1 R2 ht hv hb hval hI2
          go_wp2
          have hbx := box_set2_cells HD1.out sg (.slice ao2 n2 cap2) (.cells #[.bool sg, .slice ao2 n2 cap2] 24)
          refine bodyPost_ret (v := .agg #[.bool sg, .slice ao2 n2 cap2]) (by simp [results, Try.results22, go_sem, hbx.1, hbx.2]) rfl ⟨_, l, rfl, ⟨ao2, n2, cap2, ?_, (HR.out.setBox2 HD1.out _ _).below (Ba _ _)⟩, HT.out, ?_, ((HB.out.setCell (Nat.le_refl _) _).setCell (Nat.le_refl _) _).alloc (by simp [World.setCell]; omega) _⟩
          · rw [HSG.out, e0]
          · rw [HVv.out]; exact HU.out
        · exact absurd hbig (not_big_64 u (by omega))

set_option maxHeartbeats 2000000 in
theorem rfrom_any (n : Int) (w : World) (h1 : -9223372036854775808 ≤ n) (h2 : n ≤ 9223372036854775807) :
    Calls Try.prog 22 #[.int .i64 n] w fun e w' => ∃ x l, e = .returned x ∧ IntIs w' x (decide (n < 0) && decide (l ≠ [])) l ∧ Tr l ∧ val B32 l = n.natAbs ∧ Below w.heap.size w w' := by
  obtain ⟨u, hu⟩ : ∃ u, u = n.natAbs := ⟨_, rfl⟩
  have hub : u ≤ 18446744073709551615 := by omega
  have HU := hid hu
  by_cases hneg : n < 0
  · have e0 : decide (n < 0) = true := by simp [hneg]
    have hw : IntKind.u64.wrap (-IntKind.u64.wrap n) = (u : Int) := by rw [IntKind.wrap_u64, IntKind.wrap_u64]; omega
    clear hu
    exact rfrom_core n u true w hub HU.out e0 (.inl ⟨rfl, hneg, hw⟩)
  · have e0 : decide (n < 0) = false := by simp [hneg]
    exact rfrom_core n u false w hub HU.out e0 (.inr ⟨rfl, by omega⟩)

end Go.Proofs.Ytaenegcnobindab
