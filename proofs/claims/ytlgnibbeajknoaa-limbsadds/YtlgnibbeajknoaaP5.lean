/-
  Walk of LimbsAdds: whatever two integers are handed in, the statement answers true.
-/
import Derived.Test.YtlgnibbeajknoaaW37
import Derived.Test.YtlgnibbeajknoaaW16
set_option linter.unusedVariables false
set_option linter.unusedSimpArgs false
namespace Go.Proofs.Ytlgnibbeajknoaa
open Go.RowKit

theorem AnsI.int {w : World} {x : Value} {en z : Int} (h : AnsI w x en z) : (¬ Big z.natAbs ∧ en = 0 ∧ IsInt w x z) ∨ (Big z.natAbs ∧ en = 10 ∧ IsInt w x 0) := by
  rcases h with h | ⟨h1, h2, rfl⟩
  · exact .inl h
  · exact .inr ⟨h1, h2, zero_is w⟩
theorem same_ansI {x y : Value} {en en' z : Int} (w : World) (hx : AnsI w x en z) (hy : AnsI w y en' z) :
    en = en' ∧ Calls Try.prog 16 #[x, y] w fun e w' => e = .returned (.bool true) ∧ Below w.heap.size w w' := by
  rcases hx.int with ⟨h1, h2, h3⟩ | ⟨h1, h2, h3⟩ <;> rcases hy.int with ⟨k1, k2, k3⟩ | ⟨k1, k2, k3⟩
  · exact ⟨h2.trans k2.symm, same_true _ _ _ w h3 k3⟩
  · exact absurd k1 h1
  · exact absurd h1 k1
  · exact ⟨h2.trans k2.symm, same_true _ _ _ w h3 k3⟩
theorem sub_is (x y : Value) (a b : Int) (w : World) (hx : IsInt w x a) (hy : IsInt w y b) : Calls Try.prog 24 #[x, y] w (AddPost w (a + -b)) := by
  obtain ⟨s, ao, n, cap, l, rfl, R, g, rfl⟩ := hx.open_
  obtain ⟨s', ao', n', cap', l', rfl, R', g', rfl⟩ := hy.open_
  exact sub_any s s' ao ao' n cap n' cap' l l' w R R' g g'
theorem rsub_is (x y : Value) (a b : Int) (w : World) (hx : IsInt w x a) (hy : IsInt w y b) : Calls Try.prog 25 #[x, y] w (AddPost w (a + -b)) := by
  obtain ⟨s, ao, n, cap, l, rfl, R, g, rfl⟩ := hx.open_
  obtain ⟨s', ao', n', cap', l', rfl, R', g', rfl⟩ := hy.open_
  exact rsub_any s s' ao ao' n cap n' cap' l l' w R R' g g'

set_option maxHeartbeats 16000000 in
theorem limbsAdds_walk (neg : Bool) (ao : Option Addr) (n cap : Nat) (l : List Nat) (neg' : Bool) (ao' : Option Addr) (n' cap' : Nat) (l' : List Nat) (w : World) (R : Row .u32 B32 w ao n cap l) (R' : Row .u32 B32 w ao' n' cap' l') :
    Calls Try.prog 6 #[.agg #[.bool neg, .slice ao n cap], .agg #[.bool neg', .slice ao' n' cap']] w fun e w' => e = .returned (.bool true) ∧ Below w.heap.size w w' := by
  have HR := hid R
  have HR' := hid R'
  clear R R'
  go_enter Try.func6, Try.ntmps6
  go_wp2_with fail
  have bA := Baa w (.cells #[.bool neg, .slice ao n cap] 24) (.cells #[.bool neg', .slice ao' n' cap'] 24)
  have x1 := (Box.new 24 w neg ao n cap).alloc (.cells #[.bool neg', .slice ao' n' cap'] 24)
  have x2 := Box.new 24 (w.alloc (.cells #[.bool neg, .slice ao n cap] 24)) neg' ao' n' cap'
  rw [size_alloc] at x2
  have hsz : ((w.alloc (.cells #[.bool neg, .slice ao n cap] 24)).alloc (.cells #[.bool neg', .slice ao' n' cap'] 24)).heap.size = w.heap.size + 1 + 1 := by rw [size_alloc, size_alloc]
  generalize (w.alloc (.cells #[.bool neg, .slice ao n cap] 24)).alloc (.cells #[.bool neg', .slice ao' n' cap'] 24) = WA at *
  have bQ := Ba WA (.cells #[.bool neg, .slice ao n cap, .bool neg', .slice ao' n' cap'] 24)
  have y1 := x1.on bQ
  have y2 := x2.on bQ
  have hq := blk_new WA #[.bool neg, .slice ao n cap, .bool neg', .slice ao' n' cap'] 24
  rw [hsz] at hq
  have b0 := Bt bA bQ
  generalize WA.alloc (.cells #[.bool neg, .slice ao n cap, .bool neg', .slice ao' n' cap'] 24) = W at *
  refine (lgood2 (w.heap.size + 1 + 1) neg neg' ao ao' n cap n' cap' l l' W (blk_cell hq 0) (blk_cell hq 1) (blk_cell hq 2) (blk_cell hq 3) (HR.out.below b0) (HR'.out.below b0)).mono ?_
  rintro e w1 ⟨rfl, b1⟩
  have HB1 := hid (Bt b0 b1)
  have X1 := hid (y1.on b1)
  have X2 := hid (y2.on b1)
  have R1 := hid (HR.out.below HB1.out)
  have R1' := hid (HR'.out.below HB1.out)
  clear x1 x2 y1 y2 hq b0 b1 bQ bA hsz HR HR'
  cases hg : goodB neg l && goodB neg' l'
  · go_wp2_with (go_at_call 11; refine (awake_any _).mono ?_; rintro e w2 ⟨rfl, b2⟩)
    go_ret
    exact ⟨rfl, Bt HB1.out b2⟩
  · rw [Bool.and_eq_true] at hg
    have IA0 : IsInt w1 (.agg #[.bool neg, .slice ao n cap]) (sgn neg (val B32 l)) := ⟨neg, l, ⟨ao, n, cap, rfl, R1.out⟩, hg.1, rfl⟩
    have IB0 : IsInt w1 (.agg #[.bool neg', .slice ao' n' cap']) (sgn neg' (val B32 l')) := ⟨neg', l', ⟨ao', n', cap', rfl, R1'.out⟩, hg.2, rfl⟩
    obtain ⟨A, hA⟩ : ∃ A, A = sgn neg (val B32 l) := ⟨_, rfl⟩
    obtain ⟨B, hB⟩ : ∃ B, B = sgn neg' (val B32 l') := ⟨_, rfl⟩
    rw [← hA] at IA0
    rw [← hB] at IB0
    have IA := hid IA0
    have IB := hid IB0
    have hlt1 := X1.out.lt
    have hlt2 := X2.out.lt
    have HS0 : Hid (Held w1 w.heap.size (w.heap.size + 1) (.bool neg) (.slice ao n cap) (.bool neg') (.slice ao' n' cap') w1) := ⟨⟨X1.out.c.1, X1.out.c.2, X2.out.c.1, X2.out.c.2⟩, Below.refl _ _⟩
    clear hg hA hB IA0 IB0
    go_wp2_with fail
    refine wp_region_held_drew (S := Held w1 w.heap.size (w.heap.size + 1) (.bool neg) (.slice ao n cap) (.bool neg') (.slice ao' n' cap')) (by kernel_rfl) (HS0.out.on (Bd w1 1)) (fun hHeld => ?_)
    refine htake 0 (some 21) (.agg #[.bool neg, .slice ao n cap]) rfl rfl (by kernel_rfl) (by kernel_rfl) (by kernel_rfl) (fun _ _ _ h => h) (Or.inl ⟨by rfl, fun wx hSw => ?_⟩) (by assumption) ?_
    · obtain ⟨⟨s0, s1, s2, s3⟩, _⟩ := hSw
      go_simp
    simp only [Act.put, List.setIfInBounds_toArray, List.set_cons_zero, List.set_cons_succ]
    refine htake 3 (some 24) (.agg #[.bool neg', .slice ao' n' cap']) rfl rfl (by kernel_rfl) (by kernel_rfl) (by kernel_rfl) (fun _ _ _ h => h) (Or.inl ⟨by rfl, fun wx hSw => ?_⟩) (by assumption) ?_
    · obtain ⟨⟨s0, s1, s2, s3⟩, _⟩ := hSw
      go_simp
    simp only [Act.put, List.setIfInBounds_toArray, List.set_cons_zero, List.set_cons_succ]
    refine wpAnyH_from Lst Mst (fun a0 s a wx => s.1 ≤ 4 ∧ Held w1 w.heap.size (w.heap.size + 1) (.bool neg) (.slice ao n cap) (.bool neg') (.slice ao' n' cap') wx ∧ ∃ t22 t23 t25 t26 t5 t6, a = (((((a0.put (some 22) t22).put (some 23) t23).put (some 25) t25).put (some 26) t26).put (some 5) t5).put (some 6) t6 ∧ St w1 A B (.agg #[.bool neg, .slice ao n cap]) (.agg #[.bool neg', .slice ao' n' cap']) s.1 s.2.1 s.2.2 t22 t23 t25 t26 t5 t6 wx) 2 6 (0, false, false) rfl ?_ ?_
    · exact ⟨by decide, hHeld, undef, undef, undef, undef, undef, undef, rfl, St.mk0 (Bd w1 1) (IA.out.below (Bd w1 1)) (IB.out.below (Bd w1 1))⟩
    clear hHeld
    rintro ⟨k, al, be⟩ a wx ⟨hk, hH, t22, t23, t25, t26, t5, t6, rfl, hst⟩
    simp only [Act.put, List.setIfInBounds_toArray, List.set_cons_zero, List.set_cons_succ]
    simp only at hk hst
    have HHe := hid hH
    have HSt := hid hst
    clear hH hst
    rcases (show k = 0 ∨ k = 1 ∨ k = 2 ∨ k = 3 ∨ k = 4 by omega) with rfl | rfl | rfl | rfl | rfl <;> clear hk <;> cases al <;> cases be
    · refine .inr ⟨[1, 6, 7], by decide, by kernel_rfl, by simp, ?_⟩
      refine Steps.cons (1, false, false) rfl rfl rfl (fun K hK => ?_) ?_
      · go_simp; go_at_call 21; refine (rneg_is _ _ _ HSt.out.ia).mono ?_; rintro e wy ⟨v, rfl, iv, bv⟩; exact hK.out _ _ (HHe.out.on bv) ⟨by decide, HHe.out.on bv, v, t23, t25, t26, t5, t6, rfl, HSt.out.s1 bv iv⟩
      refine Steps.cons (0, true, false) rfl rfl rfl (fun K hK => ?_) ?_
      · go_simp; exact hK.out _ _ (HHe.out.on (Ba _ _)) ⟨by decide, HHe.out.on (Ba _ _), t22, t23, t25, t26, .pointer (some ⟨wx.heap.size, 0, none⟩), t6, rfl, HSt.out.a5⟩
      refine Steps.cons (0, false, true) rfl rfl rfl (fun K hK => ?_) ?_
      · go_simp; exact hK.out _ _ (HHe.out.on (Ba _ _)) ⟨by decide, HHe.out.on (Ba _ _), t22, t23, t25, t26, t5, .pointer (some ⟨wx.heap.size, 0, none⟩), rfl, HSt.out.a6⟩
      exact Steps.nil
    · refine .inr ⟨[1, 6], by decide, by kernel_rfl, by simp, ?_⟩
      refine Steps.cons (1, false, true) rfl rfl rfl (fun K hK => ?_) ?_
      · go_simp; go_at_call 21; refine (rneg_is _ _ _ HSt.out.ia).mono ?_; rintro e wy ⟨v, rfl, iv, bv⟩; exact hK.out _ _ (HHe.out.on bv) ⟨by decide, HHe.out.on bv, v, t23, t25, t26, t5, t6, rfl, HSt.out.s1 bv iv⟩
      refine Steps.cons (0, true, true) rfl rfl rfl (fun K hK => ?_) ?_
      · go_simp; exact hK.out _ _ (HHe.out.on (Ba _ _)) ⟨by decide, HHe.out.on (Ba _ _), t22, t23, t25, t26, .pointer (some ⟨wx.heap.size, 0, none⟩), t6, rfl, HSt.out.a5⟩
      exact Steps.nil
    · refine .inr ⟨[1, 7], by decide, by kernel_rfl, by simp, ?_⟩
      refine Steps.cons (1, true, false) rfl rfl rfl (fun K hK => ?_) ?_
      · go_simp; go_at_call 21; refine (rneg_is _ _ _ HSt.out.ia).mono ?_; rintro e wy ⟨v, rfl, iv, bv⟩; exact hK.out _ _ (HHe.out.on bv) ⟨by decide, HHe.out.on bv, v, t23, t25, t26, t5, t6, rfl, HSt.out.s1 bv iv⟩
      refine Steps.cons (0, true, true) rfl rfl rfl (fun K hK => ?_) ?_
      · go_simp; exact hK.out _ _ (HHe.out.on (Ba _ _)) ⟨by decide, HHe.out.on (Ba _ _), t22, t23, t25, t26, t5, .pointer (some ⟨wx.heap.size, 0, none⟩), rfl, HSt.out.a6⟩
      exact Steps.nil
    · refine .inr ⟨[1], by decide, by kernel_rfl, by simp, ?_⟩
      refine Steps.cons (1, true, true) rfl rfl rfl (fun K hK => ?_) ?_
      · go_simp; go_at_call 21; refine (rneg_is _ _ _ HSt.out.ia).mono ?_; rintro e wy ⟨v, rfl, iv, bv⟩; exact hK.out _ _ (HHe.out.on bv) ⟨by decide, HHe.out.on bv, v, t23, t25, t26, t5, t6, rfl, HSt.out.s1 bv iv⟩
      exact Steps.nil
    · refine .inr ⟨[2, 6, 7], by decide, by kernel_rfl, by simp, ?_⟩
      refine Steps.cons (2, false, false) rfl rfl rfl (fun K hK => ?_) ?_
      · go_simp; go_at_call 21; refine (rneg_is _ _ _ (HSt.out.i1 (by decide))).mono ?_; rintro e wy ⟨v, rfl, iv, bv⟩; exact hK.out _ _ (HHe.out.on bv) ⟨by decide, HHe.out.on bv, t22, v, t25, t26, t5, t6, rfl, HSt.out.s2 bv iv⟩
      refine Steps.cons (1, true, false) rfl rfl rfl (fun K hK => ?_) ?_
      · go_simp; exact hK.out _ _ (HHe.out.on (Ba _ _)) ⟨by decide, HHe.out.on (Ba _ _), t22, t23, t25, t26, .pointer (some ⟨wx.heap.size, 0, none⟩), t6, rfl, HSt.out.a5⟩
      refine Steps.cons (1, false, true) rfl rfl rfl (fun K hK => ?_) ?_
      · go_simp; exact hK.out _ _ (HHe.out.on (Ba _ _)) ⟨by decide, HHe.out.on (Ba _ _), t22, t23, t25, t26, t5, .pointer (some ⟨wx.heap.size, 0, none⟩), rfl, HSt.out.a6⟩
      exact Steps.nil
    · refine .inr ⟨[2, 6], by decide, by kernel_rfl, by simp, ?_⟩
      refine Steps.cons (2, false, true) rfl rfl rfl (fun K hK => ?_) ?_
      · go_simp; go_at_call 21; refine (rneg_is _ _ _ (HSt.out.i1 (by decide))).mono ?_; rintro e wy ⟨v, rfl, iv, bv⟩; exact hK.out _ _ (HHe.out.on bv) ⟨by decide, HHe.out.on bv, t22, v, t25, t26, t5, t6, rfl, HSt.out.s2 bv iv⟩
      refine Steps.cons (1, true, true) rfl rfl rfl (fun K hK => ?_) ?_
      · go_simp; exact hK.out _ _ (HHe.out.on (Ba _ _)) ⟨by decide, HHe.out.on (Ba _ _), t22, t23, t25, t26, .pointer (some ⟨wx.heap.size, 0, none⟩), t6, rfl, HSt.out.a5⟩
      exact Steps.nil
    · refine .inr ⟨[2, 7], by decide, by kernel_rfl, by simp, ?_⟩
      refine Steps.cons (2, true, false) rfl rfl rfl (fun K hK => ?_) ?_
      · go_simp; go_at_call 21; refine (rneg_is _ _ _ (HSt.out.i1 (by decide))).mono ?_; rintro e wy ⟨v, rfl, iv, bv⟩; exact hK.out _ _ (HHe.out.on bv) ⟨by decide, HHe.out.on bv, t22, v, t25, t26, t5, t6, rfl, HSt.out.s2 bv iv⟩
      refine Steps.cons (1, true, true) rfl rfl rfl (fun K hK => ?_) ?_
      · go_simp; exact hK.out _ _ (HHe.out.on (Ba _ _)) ⟨by decide, HHe.out.on (Ba _ _), t22, t23, t25, t26, t5, .pointer (some ⟨wx.heap.size, 0, none⟩), rfl, HSt.out.a6⟩
      exact Steps.nil
    · refine .inr ⟨[2], by decide, by kernel_rfl, by simp, ?_⟩
      refine Steps.cons (2, true, true) rfl rfl rfl (fun K hK => ?_) ?_
      · go_simp; go_at_call 21; refine (rneg_is _ _ _ (HSt.out.i1 (by decide))).mono ?_; rintro e wy ⟨v, rfl, iv, bv⟩; exact hK.out _ _ (HHe.out.on bv) ⟨by decide, HHe.out.on bv, t22, v, t25, t26, t5, t6, rfl, HSt.out.s2 bv iv⟩
      exact Steps.nil
    · refine .inr ⟨[4, 6, 7], by decide, by kernel_rfl, by simp, ?_⟩
      refine Steps.cons (3, false, false) rfl rfl rfl (fun K hK => ?_) ?_
      · go_simp; go_at_call 21; refine (rneg_is _ _ _ HSt.out.ib).mono ?_; rintro e wy ⟨v, rfl, iv, bv⟩; exact hK.out _ _ (HHe.out.on bv) ⟨by decide, HHe.out.on bv, t22, t23, v, t26, t5, t6, rfl, HSt.out.s3 bv iv⟩
      refine Steps.cons (2, true, false) rfl rfl rfl (fun K hK => ?_) ?_
      · go_simp; exact hK.out _ _ (HHe.out.on (Ba _ _)) ⟨by decide, HHe.out.on (Ba _ _), t22, t23, t25, t26, .pointer (some ⟨wx.heap.size, 0, none⟩), t6, rfl, HSt.out.a5⟩
      refine Steps.cons (2, false, true) rfl rfl rfl (fun K hK => ?_) ?_
      · go_simp; exact hK.out _ _ (HHe.out.on (Ba _ _)) ⟨by decide, HHe.out.on (Ba _ _), t22, t23, t25, t26, t5, .pointer (some ⟨wx.heap.size, 0, none⟩), rfl, HSt.out.a6⟩
      exact Steps.nil
    · refine .inr ⟨[4, 6], by decide, by kernel_rfl, by simp, ?_⟩
      refine Steps.cons (3, false, true) rfl rfl rfl (fun K hK => ?_) ?_
      · go_simp; go_at_call 21; refine (rneg_is _ _ _ HSt.out.ib).mono ?_; rintro e wy ⟨v, rfl, iv, bv⟩; exact hK.out _ _ (HHe.out.on bv) ⟨by decide, HHe.out.on bv, t22, t23, v, t26, t5, t6, rfl, HSt.out.s3 bv iv⟩
      refine Steps.cons (2, true, true) rfl rfl rfl (fun K hK => ?_) ?_
      · go_simp; exact hK.out _ _ (HHe.out.on (Ba _ _)) ⟨by decide, HHe.out.on (Ba _ _), t22, t23, t25, t26, .pointer (some ⟨wx.heap.size, 0, none⟩), t6, rfl, HSt.out.a5⟩
      exact Steps.nil
    · refine .inr ⟨[4, 7], by decide, by kernel_rfl, by simp, ?_⟩
      refine Steps.cons (3, true, false) rfl rfl rfl (fun K hK => ?_) ?_
      · go_simp; go_at_call 21; refine (rneg_is _ _ _ HSt.out.ib).mono ?_; rintro e wy ⟨v, rfl, iv, bv⟩; exact hK.out _ _ (HHe.out.on bv) ⟨by decide, HHe.out.on bv, t22, t23, v, t26, t5, t6, rfl, HSt.out.s3 bv iv⟩
      refine Steps.cons (2, true, true) rfl rfl rfl (fun K hK => ?_) ?_
      · go_simp; exact hK.out _ _ (HHe.out.on (Ba _ _)) ⟨by decide, HHe.out.on (Ba _ _), t22, t23, t25, t26, t5, .pointer (some ⟨wx.heap.size, 0, none⟩), rfl, HSt.out.a6⟩
      exact Steps.nil
    · refine .inr ⟨[4], by decide, by kernel_rfl, by simp, ?_⟩
      refine Steps.cons (3, true, true) rfl rfl rfl (fun K hK => ?_) ?_
      · go_simp; go_at_call 21; refine (rneg_is _ _ _ HSt.out.ib).mono ?_; rintro e wy ⟨v, rfl, iv, bv⟩; exact hK.out _ _ (HHe.out.on bv) ⟨by decide, HHe.out.on bv, t22, t23, v, t26, t5, t6, rfl, HSt.out.s3 bv iv⟩
      exact Steps.nil
    · refine .inr ⟨[5, 6, 7], by decide, by kernel_rfl, by simp, ?_⟩
      refine Steps.cons (4, false, false) rfl rfl rfl (fun K hK => ?_) ?_
      · go_simp; go_at_call 21; refine (rneg_is _ _ _ (HSt.out.i3 (by decide))).mono ?_; rintro e wy ⟨v, rfl, iv, bv⟩; exact hK.out _ _ (HHe.out.on bv) ⟨by decide, HHe.out.on bv, t22, t23, t25, v, t5, t6, rfl, HSt.out.s4 bv iv⟩
      refine Steps.cons (3, true, false) rfl rfl rfl (fun K hK => ?_) ?_
      · go_simp; exact hK.out _ _ (HHe.out.on (Ba _ _)) ⟨by decide, HHe.out.on (Ba _ _), t22, t23, t25, t26, .pointer (some ⟨wx.heap.size, 0, none⟩), t6, rfl, HSt.out.a5⟩
      refine Steps.cons (3, false, true) rfl rfl rfl (fun K hK => ?_) ?_
      · go_simp; exact hK.out _ _ (HHe.out.on (Ba _ _)) ⟨by decide, HHe.out.on (Ba _ _), t22, t23, t25, t26, t5, .pointer (some ⟨wx.heap.size, 0, none⟩), rfl, HSt.out.a6⟩
      exact Steps.nil
    · refine .inr ⟨[5, 6], by decide, by kernel_rfl, by simp, ?_⟩
      refine Steps.cons (4, false, true) rfl rfl rfl (fun K hK => ?_) ?_
      · go_simp; go_at_call 21; refine (rneg_is _ _ _ (HSt.out.i3 (by decide))).mono ?_; rintro e wy ⟨v, rfl, iv, bv⟩; exact hK.out _ _ (HHe.out.on bv) ⟨by decide, HHe.out.on bv, t22, t23, t25, v, t5, t6, rfl, HSt.out.s4 bv iv⟩
      refine Steps.cons (3, true, true) rfl rfl rfl (fun K hK => ?_) ?_
      · go_simp; exact hK.out _ _ (HHe.out.on (Ba _ _)) ⟨by decide, HHe.out.on (Ba _ _), t22, t23, t25, t26, .pointer (some ⟨wx.heap.size, 0, none⟩), t6, rfl, HSt.out.a5⟩
      exact Steps.nil
    · refine .inr ⟨[5, 7], by decide, by kernel_rfl, by simp, ?_⟩
      refine Steps.cons (4, true, false) rfl rfl rfl (fun K hK => ?_) ?_
      · go_simp; go_at_call 21; refine (rneg_is _ _ _ (HSt.out.i3 (by decide))).mono ?_; rintro e wy ⟨v, rfl, iv, bv⟩; exact hK.out _ _ (HHe.out.on bv) ⟨by decide, HHe.out.on bv, t22, t23, t25, v, t5, t6, rfl, HSt.out.s4 bv iv⟩
      refine Steps.cons (3, true, true) rfl rfl rfl (fun K hK => ?_) ?_
      · go_simp; exact hK.out _ _ (HHe.out.on (Ba _ _)) ⟨by decide, HHe.out.on (Ba _ _), t22, t23, t25, t26, t5, .pointer (some ⟨wx.heap.size, 0, none⟩), rfl, HSt.out.a6⟩
      exact Steps.nil
    · refine .inr ⟨[5], by decide, by kernel_rfl, by simp, ?_⟩
      refine Steps.cons (4, true, true) rfl rfl rfl (fun K hK => ?_) ?_
      · go_simp; go_at_call 21; refine (rneg_is _ _ _ (HSt.out.i3 (by decide))).mono ?_; rintro e wy ⟨v, rfl, iv, bv⟩; exact hK.out _ _ (HHe.out.on bv) ⟨by decide, HHe.out.on bv, t22, t23, t25, v, t5, t6, rfl, HSt.out.s4 bv iv⟩
      exact Steps.nil
    · refine .inr ⟨[6, 7], by decide, by kernel_rfl, by simp, ?_⟩
      refine Steps.cons (4, true, false) rfl rfl rfl (fun K hK => ?_) ?_
      · go_simp; exact hK.out _ _ (HHe.out.on (Ba _ _)) ⟨by decide, HHe.out.on (Ba _ _), t22, t23, t25, t26, .pointer (some ⟨wx.heap.size, 0, none⟩), t6, rfl, HSt.out.a5⟩
      refine Steps.cons (4, false, true) rfl rfl rfl (fun K hK => ?_) ?_
      · go_simp; exact hK.out _ _ (HHe.out.on (Ba _ _)) ⟨by decide, HHe.out.on (Ba _ _), t22, t23, t25, t26, t5, .pointer (some ⟨wx.heap.size, 0, none⟩), rfl, HSt.out.a6⟩
      exact Steps.nil
    · refine .inr ⟨[6], by decide, by kernel_rfl, by simp, ?_⟩
      refine Steps.cons (4, true, true) rfl rfl rfl (fun K hK => ?_) ?_
      · go_simp; exact hK.out _ _ (HHe.out.on (Ba _ _)) ⟨by decide, HHe.out.on (Ba _ _), t22, t23, t25, t26, .pointer (some ⟨wx.heap.size, 0, none⟩), t6, rfl, HSt.out.a5⟩
      exact Steps.nil
    · refine .inr ⟨[7], by decide, by kernel_rfl, by simp, ?_⟩
      refine Steps.cons (4, true, true) rfl rfl rfl (fun K hK => ?_) ?_
      · go_simp; exact hK.out _ _ (HHe.out.on (Ba _ _)) ⟨by decide, HHe.out.on (Ba _ _), t22, t23, t25, t26, t5, .pointer (some ⟨wx.heap.size, 0, none⟩), rfl, HSt.out.a6⟩
      exact Steps.nil
    · refine .inl ⟨rfl, ?_⟩
      obtain ⟨p5, rfl, hp5, B5⟩ := HSt.out.b5 rfl
      obtain ⟨p6, rfl, hp6, B6⟩ := HSt.out.b6 rfl
      have hne : p5 ≠ p6 := fun e => HSt.out.ne rfl rfl (by rw [e])
      obtain ⟨sx, ax, nx, cx, lx, rfl, Rx, gx, hA⟩ := (HSt.out.i2 (by omega)).open_
      obtain ⟨sy, ay, ny, cy, ly, rfl, Ry, gy, hB⟩ := (HSt.out.i4 (by omega)).open_
      have B56 := B6.far2 hne.symm (.bool sx) (.slice ax nx cx)
      have HRx := hid ((Rx.setBox2 B5 sx (.slice ax nx cx)).setBox2 B56 sy (.slice ay ny cy))
      have HRy := hid ((Ry.setBox2 B5 sx (.slice ax nx cx)).setBox2 B56 sy (.slice ay ny cy))
      have HBW := hid ((((HSt.out.bel.setCell (p := ⟨p5, 0, none⟩) hp5 (.bool sx)).setCell (p := ⟨p5, 1, none⟩) hp5 (.slice ax nx cx)).setCell (p := ⟨p6, 0, none⟩) hp6 (.bool sy)).setCell (p := ⟨p6, 1, none⟩) hp6 (.slice ay ny cy))
      have X5 := hid ((B5.set2 sx ax nx cx).far2 hne (.bool sy) (.slice ay ny cy))
      have X6 := hid (B56.set2 sy ay ny cy)
      have HG := hid (And.intro (And.intro gx gy) (And.intro hA hB))
      obtain ⟨c50, c51⟩ := B5.c
      obtain ⟨f50, f51⟩ := B5.f
      have HB56 := hid B56
      clear HSt Rx Ry gx gy hA hB B5 B6 B56
      refine hone 8 _ rfl (by kernel_rfl) (fun K hK => ?_)
      go_simp
      refine hK.out _ _ (HHe.out.set2 hp5 hlt1 hlt2) (fun hHeld => ?_)
      clear hK K c50 c51 f50 f51
      obtain ⟨c60, c61⟩ := HB56.out.c
      obtain ⟨f60, f61⟩ := HB56.out.f
      refine hone 9 _ rfl (by kernel_rfl) (fun K hK => ?_)
      go_simp
      refine hK.out _ _ (Held.set2 hHeld hp6 hlt1 hlt2) (fun hHeld2 => ?_)
      clear hK K c60 c61 f60 f61 hHeld hHeld2 HB56 HHe
      refine wpAnyH_done (by kernel_rfl) ?_ _
      generalize ((((wx.setCell ⟨p5, 0, none⟩ (.bool sx)).setCell ⟨p5, 1, none⟩ (.slice ax nx cx)).setCell ⟨p6, 0, none⟩ (.bool sy)).setCell ⟨p6, 1, none⟩ (.slice ay ny cy)) = W2 at *
      have IX : Hid (IsInt W2 (.agg #[.bool sx, .slice ax nx cx]) A) := ⟨sx, lx, ⟨ax, nx, cx, rfl, HRx.out⟩, HG.out.1.1, HG.out.2.1⟩
      have IY : Hid (IsInt W2 (.agg #[.bool sy, .slice ay ny cy]) B) := ⟨sy, ly, ⟨ay, ny, cy, rfl, HRy.out⟩, HG.out.1.2, HG.out.2.2⟩
      have JA := hid (IA.out.below HBW.out)
      have JB := hid (IB.out.below HBW.out)
      have Y1 := hid (X1.out.on HBW.out)
      have Y2 := hid (X2.out.on HBW.out)
      have HB2 := hid (Bt HB1.out HBW.out)
      clear HRx HRy HBW HG IA IB X1 X2 HB1 HS0 R1 R1' hp5 hp6 hne
      obtain ⟨u0, u1⟩ := X5.out.c
      obtain ⟨u2, u3⟩ := X6.out.c
      go_wp2_with fail

      refine (add_is _ _ _ _ _ IX.out IY.out).mono ?_
      rintro e w3 ⟨vv, ep, rfl, hA, b2⟩
      obtain ⟨sp, ap, np, cp, lp, rfl, Rp, hAp⟩ := hA.form
      have b3 := Bt b2 (Ba w3 (.cells #[.bool sp, .slice ap np cp] 24))
      have Xa3 := hid (Y1.out.on b3)
      have Xb3 := hid (Y2.out.on b3)
      have Xx3 := hid (X5.out.on b3)
      have Xy3 := hid (X6.out.on b3)
      have Ia3 := hid (JA.out.below b3)
      have Ib3 := hid (JB.out.below b3)
      have Ix3 := hid (IX.out.below b3)
      have Iy3 := hid (IY.out.below b3)
      have Np3 := hid (hA.below (Ba w3 (.cells #[.bool sp, .slice ap np cp] 24)))
      have Xp3 := hid (Box.new 24 w3 sp ap np cp)
      have HB3 := hid (Bt HB2.out b3)
      clear u0 u1 u2 u3 b2 b3 hA Rp hAp Y1 Y2 X5 X6 JA JB IX IY HB2
      obtain ⟨u0, u1⟩ := Xa3.out.c
      obtain ⟨u2, u3⟩ := Xb3.out.c
      go_wp2_with fail
      obtain ⟨gp, hgp⟩ : ∃ g, g = w3.heap.size := ⟨_, rfl⟩
      rw [← hgp] at Xp3
      rw [← hgp]
      generalize w3.alloc (.cells #[.bool sp, .slice ap np cp] 24) = W3 at *
      clear hgp
      refine (radd_is _ _ _ _ _ Ia3.out Ib3.out).mono ?_
      rintro e w4 ⟨vv, eq, rfl, hA, b2⟩
      obtain ⟨sq, aq, nq, cq, lq, rfl, Rp, hAp⟩ := hA.form
      have b3 := Bt b2 (Ba w4 (.cells #[.bool sq, .slice aq nq cq] 24))
      have Xa4 := hid (Xa3.out.on b3)
      have Xb4 := hid (Xb3.out.on b3)
      have Xx4 := hid (Xx3.out.on b3)
      have Xy4 := hid (Xy3.out.on b3)
      have Xp4 := hid (Xp3.out.on b3)
      have Ia4 := hid (Ia3.out.below b3)
      have Ib4 := hid (Ib3.out.below b3)
      have Ix4 := hid (Ix3.out.below b3)
      have Iy4 := hid (Iy3.out.below b3)
      have Np4 := hid (Np3.out.below b3)
      have Nq4 := hid (hA.below (Ba w4 (.cells #[.bool sq, .slice aq nq cq] 24)))
      have Xq4 := hid (Box.new 24 w4 sq aq nq cq)
      have HB4 := hid (Bt HB3.out b3)
      clear u0 u1 u2 u3 b2 b3 hA Rp hAp Xa3 Xb3 Xx3 Xy3 Xp3 Ia3 Ib3 Ix3 Iy3 Np3 HB3
      obtain ⟨u0, u1⟩ := Xx4.out.c
      obtain ⟨u2, u3⟩ := Xy4.out.c
      go_wp2_with fail
      obtain ⟨gq, hgq⟩ : ∃ g, g = w4.heap.size := ⟨_, rfl⟩
      rw [← hgq] at Xq4
      rw [← hgq]
      generalize w4.alloc (.cells #[.bool sq, .slice aq nq cq] 24) = W4 at *
      clear hgq
      refine (sub_is _ _ _ _ _ Ix4.out Iy4.out).mono ?_
      rintro e w5 ⟨vv, em, rfl, hA, b2⟩
      obtain ⟨sm, am, nm, cm, lm, rfl, Rp, hAp⟩ := hA.form
      have b3 := Bt b2 (Ba w5 (.cells #[.bool sm, .slice am nm cm] 24))
      have Xa5 := hid (Xa4.out.on b3)
      have Xb5 := hid (Xb4.out.on b3)
      have Xx5 := hid (Xx4.out.on b3)
      have Xy5 := hid (Xy4.out.on b3)
      have Xp5 := hid (Xp4.out.on b3)
      have Xq5 := hid (Xq4.out.on b3)
      have Ia5 := hid (Ia4.out.below b3)
      have Ib5 := hid (Ib4.out.below b3)
      have Ix5 := hid (Ix4.out.below b3)
      have Iy5 := hid (Iy4.out.below b3)
      have Np5 := hid (Np4.out.below b3)
      have Nq5 := hid (Nq4.out.below b3)
      have Nm5 := hid (hA.below (Ba w5 (.cells #[.bool sm, .slice am nm cm] 24)))
      have Xm5 := hid (Box.new 24 w5 sm am nm cm)
      have HB5 := hid (Bt HB4.out b3)
      clear u0 u1 u2 u3 b2 b3 hA Rp hAp Xa4 Xb4 Xx4 Xy4 Xp4 Xq4 Ia4 Ib4 Ix4 Iy4 Np4 Nq4 HB4
      obtain ⟨u0, u1⟩ := Xa5.out.c
      obtain ⟨u2, u3⟩ := Xb5.out.c
      go_wp2_with fail
      obtain ⟨gm, hgm⟩ : ∃ g, g = w5.heap.size := ⟨_, rfl⟩
      rw [← hgm] at Xm5
      rw [← hgm]
      generalize w5.alloc (.cells #[.bool sm, .slice am nm cm] 24) = W5 at *
      clear hgm
      refine (rsub_is _ _ _ _ _ Ia5.out Ib5.out).mono ?_
      rintro e w6 ⟨vv, ed, rfl, hA, b2⟩
      obtain ⟨sd, ad, nd, cd, ld, rfl, Rp, hAp⟩ := hA.form
      have b3 := Bt b2 (Ba w6 (.cells #[.bool sd, .slice ad nd cd] 24))
      have Xa6 := hid (Xa5.out.on b3)
      have Xb6 := hid (Xb5.out.on b3)
      have Xx6 := hid (Xx5.out.on b3)
      have Xy6 := hid (Xy5.out.on b3)
      have Xp6 := hid (Xp5.out.on b3)
      have Xq6 := hid (Xq5.out.on b3)
      have Xm6 := hid (Xm5.out.on b3)
      have Ia6 := hid (Ia5.out.below b3)
      have Ib6 := hid (Ib5.out.below b3)
      have Ix6 := hid (Ix5.out.below b3)
      have Iy6 := hid (Iy5.out.below b3)
      have Np6 := hid (Np5.out.below b3)
      have Nq6 := hid (Nq5.out.below b3)
      have Nm6 := hid (Nm5.out.below b3)
      have Nd6 := hid (hA.below (Ba w6 (.cells #[.bool sd, .slice ad nd cd] 24)))
      have Xd6 := hid (Box.new 24 w6 sd ad nd cd)
      have HB6 := hid (Bt HB5.out b3)
      clear u0 u1 u2 u3 b2 b3 hA Rp hAp Xa5 Xb5 Xx5 Xy5 Xp5 Xq5 Xm5 Ia5 Ib5 Ix5 Iy5 Np5 Nq5 Nm5 HB5
      obtain ⟨u0, u1⟩ := Xp6.out.c
      obtain ⟨u2, u3⟩ := Xq6.out.c
      go_wp2_with fail
      obtain ⟨gd, hgd⟩ : ∃ g, g = w6.heap.size := ⟨_, rfl⟩
      rw [← hgd] at Xd6
      rw [← hgd]
      generalize w6.alloc (.cells #[.bool sd, .slice ad nd cd] 24) = W6 at *
      clear hgd
      obtain ⟨hen, hsame⟩ := same_ansI _ Np6.out Nq6.out
      subst hen
      refine hsame.mono ?_
      rintro e w7 ⟨rfl, b2⟩
      have Xa7 := hid (Xa6.out.on b2)
      have Xb7 := hid (Xb6.out.on b2)
      have Xx7 := hid (Xx6.out.on b2)
      have Xy7 := hid (Xy6.out.on b2)
      have Xp7 := hid (Xp6.out.on b2)
      have Xq7 := hid (Xq6.out.on b2)
      have Xm7 := hid (Xm6.out.on b2)
      have Xd7 := hid (Xd6.out.on b2)
      have Ia7 := hid (Ia6.out.below b2)
      have Ib7 := hid (Ib6.out.below b2)
      have Ix7 := hid (Ix6.out.below b2)
      have Iy7 := hid (Iy6.out.below b2)
      have Np7 := hid (Np6.out.below b2)
      have Nq7 := hid (Nq6.out.below b2)
      have Nm7 := hid (Nm6.out.below b2)
      have Nd7 := hid (Nd6.out.below b2)
      have HB7 := hid (Bt HB6.out b2)
      clear u0 u1 u2 u3 b2 hsame Xa6 Xb6 Xx6 Xy6 Xp6 Xq6 Xm6 Xd6 Ia6 Ib6 Ix6 Iy6 Np6 Nq6 Nm6 Nd6 HB6
      have ee1 : (ep == ep) = true := by simp
      obtain ⟨u0, u1⟩ := Xm7.out.c
      obtain ⟨u2, u3⟩ := Xd7.out.c
      go_wp2_with fail
      obtain ⟨hen, hsame⟩ := same_ansI _ Nm7.out Nd7.out
      subst hen
      refine hsame.mono ?_
      rintro e w8 ⟨rfl, b2⟩
      have Xa8 := hid (Xa7.out.on b2)
      have Xb8 := hid (Xb7.out.on b2)
      have Xx8 := hid (Xx7.out.on b2)
      have Xy8 := hid (Xy7.out.on b2)
      have Xp8 := hid (Xp7.out.on b2)
      have Xq8 := hid (Xq7.out.on b2)
      have Xm8 := hid (Xm7.out.on b2)
      have Xd8 := hid (Xd7.out.on b2)
      have Ia8 := hid (Ia7.out.below b2)
      have Ib8 := hid (Ib7.out.below b2)
      have Ix8 := hid (Ix7.out.below b2)
      have Iy8 := hid (Iy7.out.below b2)
      have Np8 := hid (Np7.out.below b2)
      have Nq8 := hid (Nq7.out.below b2)
      have Nm8 := hid (Nm7.out.below b2)
      have Nd8 := hid (Nd7.out.below b2)
      have HB8 := hid (Bt HB7.out b2)
      clear u0 u1 u2 u3 b2 hsame Xa7 Xb7 Xx7 Xy7 Xp7 Xq7 Xm7 Xd7 Ia7 Ib7 Ix7 Iy7 Np7 Nq7 Nm7 Nd7 HB7
      have ee2 : (em == em) = true := by simp
      obtain ⟨u0, u1⟩ := Xa8.out.c
      obtain ⟨u2, u3⟩ := Xx8.out.c
      go_wp2_with fail
      refine (same_true _ _ _ _ Ia8.out Ix8.out).mono ?_
      rintro e w9 ⟨rfl, b2⟩
      have Xa9 := hid (Xa8.out.on b2)
      have Xb9 := hid (Xb8.out.on b2)
      have Xx9 := hid (Xx8.out.on b2)
      have Xy9 := hid (Xy8.out.on b2)
      have Xp9 := hid (Xp8.out.on b2)
      have Xq9 := hid (Xq8.out.on b2)
      have Xm9 := hid (Xm8.out.on b2)
      have Xd9 := hid (Xd8.out.on b2)
      have Ia9 := hid (Ia8.out.below b2)
      have Ib9 := hid (Ib8.out.below b2)
      have Ix9 := hid (Ix8.out.below b2)
      have Iy9 := hid (Iy8.out.below b2)
      have Np9 := hid (Np8.out.below b2)
      have Nq9 := hid (Nq8.out.below b2)
      have Nm9 := hid (Nm8.out.below b2)
      have Nd9 := hid (Nd8.out.below b2)
      have HB9 := hid (Bt HB8.out b2)
      clear u0 u1 u2 u3 b2 Xa8 Xb8 Xx8 Xy8 Xp8 Xq8 Xm8 Xd8 Ia8 Ib8 Ix8 Iy8 Np8 Nq8 Nm8 Nd8 HB8
      obtain ⟨u0, u1⟩ := Xb9.out.c
      obtain ⟨u2, u3⟩ := Xy9.out.c
      go_wp2_with fail
      refine (same_true _ _ _ _ Ib9.out Iy9.out).mono ?_
      rintro e w10 ⟨rfl, b2⟩
      have Xa10 := hid (Xa9.out.on b2)
      have Xb10 := hid (Xb9.out.on b2)
      have Xx10 := hid (Xx9.out.on b2)
      have Xy10 := hid (Xy9.out.on b2)
      have Xp10 := hid (Xp9.out.on b2)
      have Xq10 := hid (Xq9.out.on b2)
      have Xm10 := hid (Xm9.out.on b2)
      have Xd10 := hid (Xd9.out.on b2)
      have Ia10 := hid (Ia9.out.below b2)
      have Ib10 := hid (Ib9.out.below b2)
      have Ix10 := hid (Ix9.out.below b2)
      have Iy10 := hid (Iy9.out.below b2)
      have Np10 := hid (Np9.out.below b2)
      have Nq10 := hid (Nq9.out.below b2)
      have Nm10 := hid (Nm9.out.below b2)
      have Nd10 := hid (Nd9.out.below b2)
      have HB10 := hid (Bt HB9.out b2)
      clear u0 u1 u2 u3 b2 Xa9 Xb9 Xx9 Xy9 Xp9 Xq9 Xm9 Xd9 Ia9 Ib9 Ix9 Iy9 Np9 Nq9 Nm9 Nd9 HB9
      go_wp2_with (go_at_call 11; refine (awake_any _).mono ?_; rintro e w19 ⟨rfl, b9⟩)
      go_ret
      exact ⟨rfl, Bt HB10.out b9⟩
end Go.Proofs.Ytlgnibbeajknoaa
