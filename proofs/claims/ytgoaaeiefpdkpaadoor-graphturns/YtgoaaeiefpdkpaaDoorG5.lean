/-
  Texts that are printed integers; walks: isPrinted.
-/
import Derived.Test.YtgoaaeiefpdkpaaDoorW40
import Derived.Test.YtgoaaeiefpdkpaaDoorW41
set_option linter.unusedVariables false
set_option linter.unusedSimpArgs false
namespace Go.Proofs.YtgoaaeiefpdkpaaDoor
open Go.RowKit

def digs : Nat → Nat → List Nat
  | 0, _ => []
  | f + 1, v => if v = 0 then [] else (v % 10) :: digs f (v / 10)
theorem digs_ok : ∀ f v, v ≤ f → Dg 10 (digs f v) ∧ Tr (digs f v) ∧ val 10 (digs f v) = v ∧ (v ≠ 0 → digs f v ≠ [])
  | 0, v, h => by
    obtain rfl : v = 0 := by omega
    exact ⟨Dg.nil _, Tr.nil, rfl, fun h => absurd rfl h⟩
  | f + 1, v, h => by
    by_cases hv : v = 0
    · subst hv; simp [digs, val]; exact ⟨Dg.nil _, Tr.nil⟩
    · obtain ⟨h1, h2, h3, h4⟩ := digs_ok f (v / 10) (by omega)
      have e : digs (f + 1) v = (v % 10) :: digs f (v / 10) := by simp [digs, hv]
      rw [e]
      refine ⟨fun x hx => ?_, .inr ?_, ?_, fun _ => by simp⟩
      · rcases List.mem_cons.1 hx with rfl | hx
        · omega
        · exact h1 x hx
      · by_cases h0 : v / 10 = 0
        · have : digs f (v / 10) = [] := by rw [h0]; cases f <;> simp [digs]
          rw [this]; simp; omega
        · have hne := h4 h0
          have := h2.resolve_left hne
          obtain ⟨n, hn⟩ : ∃ n, (digs f (v / 10)).length = n + 1 := ⟨(digs f (v / 10)).length - 1, by have := List.length_pos_iff.2 hne; omega⟩
          rw [List.length_cons, hn]
          rw [hn] at this
          simpa using this
      · rw [val_cons, h3]; omega
/-- How an integer is printed in radix 10. -/
def printL (neg : Bool) (v : Nat) : List Nat := if digs v v = [] then [48] else (if neg then [45] else []) ++ ((digs v v).map chr).reverse
theorem Printed.is {neg : Bool} {v : Nat} {s : ByteArray} {en : Int} (h : Printed neg v 10 s en) : bs s = printL neg v ∧ en = 0 := by
  rcases h with ⟨a, _⟩ | ⟨_, he, D, d1, d2, d3, d4⟩
  · exact absurd ⟨by omega, by omega⟩ a
  · obtain ⟨k1, k2, k3, _⟩ := digs_ok v v (Nat.le_refl _)
    have hD : D = digs v v := digits_unique (B := 10) (by omega) d1 k1 d2 k2 (by rw [k3]; exact d3)
    subst hD
    exact ⟨d4, he⟩
/-- Is a text an integer's, as it is printed? -/
def printedB (t : ByteArray) : Bool := digitsB 10 (cutS (bs t)).2 && decide (hv 10 (cutS (bs t)).2 < B32 ^ 40) && decide (bs t = printL ((cutS (bs t)).1 && decide (hv 10 (cutS (bs t)).2 ≠ 0)) (hv 10 (cutS (bs t)).2))

/-- What is known of an integer that was read. -/
theorem ans_int {w : World} {x : Value} {en : Int} {neg : Bool} {v : Nat} (h : Ans w x en neg v) : (¬ Big v ∧ en = 0 ∧ ∃ ao n cap l, x = .agg #[.bool (neg && decide (v ≠ 0)), .slice ao n cap] ∧ Row .u32 B32 w ao n cap l ∧ goodB (neg && decide (v ≠ 0)) l = true ∧ val B32 l = v ∧ n ≤ 40) ∨ (Big v ∧ en = 10) := by
  rcases h with ⟨h1, h2, l, ⟨ao, n, cap, h3, R⟩, h4, h5⟩ | ⟨h1, h2, _⟩
  · refine .inl ⟨h1, h2, ao, n, cap, l, ?_, R, ?_, h5, ?_⟩
    · rw [h3]
      have e0 : (neg && decide (l ≠ [])) = (neg && decide (v ≠ 0)) := ?_
      · rw [e0]
      rw [Bool.eq_iff_iff]
      have := h4.zero_iff (B := B32) (by decide)
      rw [h5] at this
      simp only [Bool.and_eq_true, decide_eq_true_eq, ne_eq]
      have e2 : l.length = 0 ↔ l = [] := List.length_eq_zero_iff
      rw [this, e2]
    · have hl := (small_len R.dg h4).2 (by rw [h5]; exact h1)
      refine goodB_mk h4 hl fun h0 => ?_
      have := (h4.zero_iff (B := B32) (by decide)).2 h0
      rw [h5] at this
      simp [this]
    · rw [← R.len]; exact (small_len R.dg h4).2 (by rw [h5]; exact h1)
  · exact .inr ⟨h1, h2⟩

theorem Ans.form' {w : World} {x : Value} {en : Int} {neg : Bool} {v : Nat} (h : Ans w x en neg v) : ∃ s ao n cap l, x = .agg #[.bool s, .slice ao n cap] ∧ Row .u32 B32 w ao n cap l ∧ True := by
  rcases h with ⟨_, _, l, ⟨ao, n, cap, h3, R⟩, _⟩ | ⟨_, _, h⟩
  · exact ⟨_, ao, n, cap, l, h3, R, trivial⟩
  · exact ⟨false, none, 0, 0, [], h, Row.nil _ _ _ _, trivial⟩
theorem str_eq (s t : ByteArray) : (s.toList == t.toList) = decide (s = t) := by
  rw [Bool.eq_iff_iff, beq_iff_eq, decide_eq_true_eq]
  constructor
  · intro h
    rw [Lib.toList_data, Lib.toList_data] at h
    obtain ⟨a⟩ := s
    obtain ⟨b⟩ := t
    exact congrArg ByteArray.mk (Array.toList_inj.1 h)
  · rintro rfl; rfl

set_option maxHeartbeats 1000000 in
theorem isPrinted_any (t : ByteArray) (w : World) (ht : t.size ≤ maxLen) : Calls Tryd.prog 53 #[.string t] w fun e w' => e = .returned (.bool (printedB t)) ∧ Below w.heap.size w w' := by
  go_enter Tryd.func53, Tryd.ntmps53
  go_wp2_with fail
  refine (parse_any t 10 _ ht).mono ?_
  rintro e w1 ⟨x, en, rfl, b1, hP⟩
  rcases hP with ⟨h, _⟩ | ⟨_, hd, rfl, rfl⟩ | ⟨_, hd, hA⟩
  · exact absurd ⟨by omega, by omega⟩ h
  · go_wp2
    go_ret
    refine ⟨?_, Bt b1 (Ba _ _)⟩
    unfold printedB; rw [hd]; rfl
  · rcases ans_int hA with ⟨hb, rfl, ao, n, cap, l, rfl, R, g, hv_, hn⟩ | ⟨hb, rfl⟩
    · have b2 := Ba w1 (.cells #[.bool ((cutS (bs t)).1 && decide (hv (10 : Int).toNat (cutS (bs t)).2 ≠ 0)), .slice ao n cap] 56)
      have R2 := hid (R.below b2)
      have G2 := hid g
      have HB := hid (Bt b1 b2)
      have HD := hid hd
      have HV := hid hv_
      have HBG := hid hb
      obtain ⟨sg, hsg⟩ : ∃ sg, sg = ((cutS (bs t)).1 && decide (hv (10 : Int).toNat (cutS (bs t)).2 ≠ 0)) := ⟨_, rfl⟩
      rw [← hsg] at R2 G2 HB b2 ⊢
      have HSG := hid hsg
      clear R g hA hd hv_ hb b1 b2 hsg
      go_wp2_with fail
      generalize w1.alloc (.cells #[.bool sg, .slice ao n cap] 56) = w2 at *
      refine (print_all sg ao n cap l 10 w2 R2.out G2.out).mono ?_
      rintro e w3 ⟨s, en, rfl, hpr, b3⟩
      obtain ⟨hbs, rfl⟩ := hpr.is
      have HB3 := hid (Bt HB.out b3)
      have HE : Hid (decide (s = t) = printedB t) := by
        unfold Hid printedB
        rw [HV.out, HSG.out] at hbs
        have e10 : (10 : Int).toNat = 10 := rfl
        rw [e10] at hbs
        have hnb : hv 10 (cutS (bs t)).2 < B32 ^ 40 := by have := HBG.out; unfold Big at this; rw [e10] at this; omega
        rw [HD.out, ← hbs]
        simp only [Bool.true_and, hnb, decide_true]
        rw [Bool.eq_iff_iff, decide_eq_true_eq, decide_eq_true_eq]
        exact ⟨fun h => by rw [h], fun h => bs_ext h.symm⟩
      clear hpr hbs b3
      go_wp2
      go_ret
      refine ⟨?_, HB3.out⟩
      rw [← HE.out]
      exact congrArg (fun z => Ending.returned (.bool z)) (str_eq s t)
    · have HB := hid b1
      have hp : Hid (printedB t = false) := by
        unfold Hid printedB
        have hnb : ¬ hv 10 (cutS (bs t)).2 < B32 ^ 40 := by unfold Big at hb; have e10 : (10 : Int).toNat = 10 := rfl; rw [e10] at hb; omega
        simp only [hnb, decide_false, Bool.and_false, Bool.false_and]
      obtain ⟨sx, ax, nx, cx, lx, rfl, _, _⟩ := hA.form'
      clear hA hb hd b1
      go_wp2
      go_ret
      exact ⟨by rw [hp.out]; rfl, Bt HB.out (Ba _ _)⟩

end Go.Proofs.YtgoaaeiefpdkpaaDoor
