/-
  The program's heap: fields that are not there; Get, Set.
-/
import Derived.Test.YtdekkieajffblaaV9a
set_option linter.unusedVariables false
set_option linter.unusedSimpArgs false
set_option maxRecDepth 100000
namespace Go.Proofs.Ytdekkieajffblaa
open Go.RowKit

section
variable {B : Nat} {v : Value} {N : Int} {F : Nat → Prop} {os : List Ob}
theorem q_nofield {p kind i : Int} (ho : OsOk os) (hp : U64 p) (hk : Z64 kind) (hi : Z64 i) (hf : (fieldM os p kind i).2 ≠ 0) (w : World) (h : PH B v N (wordsL os) F w) :
    Calls Try.prog 99 #[v, .int .u64 p, .int .i64 kind, .int .i64 i] w fun e w' => e = .returned (.tuple #[.int .i64 0, .int .i64 (fieldM os p kind i).2]) ∧ w' = w := by
  have H := hid h
  have hbd := h.bd
  rw [wordsL_length] at hbd
  obtain ⟨gh, rfl⟩ := h.ptr
  clear h
  cases hfd : findM os p with
  | none =>
    have e1 : (fieldM os p kind i).2 = 70 := by unfold fieldM; rw [hfd]
    rw [e1]
    have C := hid (q_none ho hp hfd w H.out)
    clear hfd H hf e1
    go_enter Try.func99, Try.ntmps99
    go_wp2_with (go_at_call 81; (with_reducible refine C.out.mono ?_); rintro e W1 ⟨rfl, hw1⟩; rw [hw1]; clear hw1)
    go_ret2
    exact ⟨rfl, rfl⟩
  | some k =>
    have C := hid (q_some ho hp hfd w H.out)
    have hkl := (findM_lt hfd).1
    have hal := at_lt hkl
    have hxk := ho.kd _ (getD_in_os hkl)
    have hfe : Hid (fieldM os p kind i = if kind ≠ 0 ∧ (os.getD k default).kind ≠ kind then (0, 70) else if i < 0 ∨ ((os.getD k default).f.length : Int) ≤ i then (0, 2) else ((k : Int), 0)) := by unfold Hid fieldM; rw [hfd]
    obtain ⟨x, hx⟩ : ∃ x, x = os.getD k default := ⟨_, rfl⟩
    rw [← hx] at C hal hxk hfe
    obtain ⟨a, ha⟩ : ∃ a, a = atO os k := ⟨_, rfl⟩
    rw [← ha] at C hal
    obtain ⟨xk, xf⟩ := x
    simp only at C hal hxk hfe
    obtain ⟨fl, hfl⟩ : ∃ q, q = xf.length := ⟨_, rfl⟩
    rw [← hfl] at C hal hfe
    unfold Z64 at hk hi
    clear hx ha hfl hfd hkl H
    by_cases h1 : kind ≠ 0 ∧ xk ≠ kind
    · have e1 := hfe.out.trans (if_pos h1)
      rw [e1]
      obtain ⟨h2, h3⟩ := h1
      have ek : (kind != xk) = true := by simp; omega
      have ek0 : (kind != 0) = true := by simp; omega
      clear hf hfe e1
      go_enter Try.func99, Try.ntmps99
      go_wp2_with (go_at_call 81; (with_reducible refine C.out.mono ?_); rintro e W1 ⟨rfl, hw1⟩; rw [hw1]; clear hw1)
      go_ret2
      exact ⟨rfl, rfl⟩
    · by_cases h2 : i < 0 ∨ (fl : Int) ≤ i
      · have e1 := hfe.out.trans ((if_neg h1).trans (if_pos h2))
        rw [e1]
        clear hf hfe e1
        by_cases hk0 : kind = 0
        · subst hk0
          by_cases h3 : i < 0
          · go_enter Try.func99, Try.ntmps99
            go_wp2_with (go_at_call 81; (with_reducible refine C.out.mono ?_); rintro e W1 ⟨rfl, hw1⟩; rw [hw1]; clear hw1)
            go_ret2
            exact ⟨rfl, rfl⟩
          · have h4 : (fl : Int) ≤ i := by omega
            go_enter Try.func99, Try.ntmps99
            go_wp2_with (go_at_call 81; (with_reducible refine C.out.mono ?_); rintro e W1 ⟨rfl, hw1⟩; rw [hw1]; clear hw1)
            go_ret2
            exact ⟨rfl, rfl⟩
        · obtain rfl : kind = xk := by omega
          have ek : (kind != kind) = false := by simp
          have ek0 : (kind != 0) = true := by simp; omega
          by_cases h3 : i < 0
          · go_enter Try.func99, Try.ntmps99
            go_wp2_with (go_at_call 81; (with_reducible refine C.out.mono ?_); rintro e W1 ⟨rfl, hw1⟩; rw [hw1]; clear hw1)
            go_ret2
            exact ⟨rfl, rfl⟩
          · have h4 : (fl : Int) ≤ i := by omega
            go_enter Try.func99, Try.ntmps99
            go_wp2_with (go_at_call 81; (with_reducible refine C.out.mono ?_); rintro e W1 ⟨rfl, hw1⟩; rw [hw1]; clear hw1)
            go_ret2
            exact ⟨rfl, rfl⟩
      · exact absurd (by rw [hfe.out, if_neg h1, if_neg h2]) hf
theorem pget_any (ho : OsOk os) (p kind i : Int) (hp : U64 p) (hk : Z64 kind) (hi : Z64 i) (w : World) (h : PH B v N (wordsL os) F w) :
    Calls Try.prog 83 #[v, .int .u64 p, .int .i64 kind, .int .i64 i] w fun e w' => e = .returned (.tuple #[.int .u64 (getM os p kind i).1, .int .i64 (getM os p kind i).2]) ∧ Below w.heap.size w w' := by
  by_cases hf : (fieldM os p kind i).2 = 0
  · obtain ⟨k, e1, hkl, hfd, h0, h1⟩ := fieldM_ok hf
    have C := hid (q_field ho hp hk hi e1 w h)
    have e2 : getM os p kind i = ((os.getD k default).f.getD i.toNat 0, 0) := by unfold getM; rw [if_pos hf, e1]; rfl
    rw [e2]
    have hal := at_lt hkl
    obtain ⟨j, rfl⟩ : ∃ j : Nat, i = (j : Int) := ⟨i.toNat, by omega⟩
    rw [Int.toNat_natCast]
    have e3 := word_field (os := os) (k := k) (j := j) hkl (by omega)
    obtain ⟨gh, gw, n, rest, rfl, hp⟩ := h.opened
    have c0 := hp.c0
    have cw := hp.word' (i := atO os k + 1 + j) (by rw [wordsL_length]; omega)
    rw [e3] at cw
    have hul := hp.used_le
    have hnn := hp.nn
    have hbd := hp.bd
    rw [wordsL_length] at hul hbd
    obtain ⟨z, hz⟩ : ∃ z, z = (os.getD k default).f.getD j 0 := ⟨_, rfl⟩
    rw [← hz] at cw ⊢
    obtain ⟨a, ha⟩ : ∃ a, a = atO os k := ⟨_, rfl⟩
    rw [← ha] at C cw hal
    have hlt : a + 1 + j < n := by omega
    have e4 : ((a : Int) + 1 + j) = ((a + 1 + j : Nat) : Int) := by omega
    rw [e4] at C
    obtain ⟨q, hq⟩ : ∃ q, q = a + 1 + j := ⟨_, rfl⟩
    rw [← hq] at C cw hlt
    simp only
    clear h hp hz ha e1 e2 e3 e4 hf hfd hkl hk hi h0 h1 hal hq
    go_enter Try.func83, Try.ntmps83
    go_wp2_with (go_at_call 99; (with_reducible refine C.out.mono ?_); rintro e W1 ⟨rfl, hw1⟩; rw [hw1]; clear hw1)
    go_ret2
    exact ⟨rfl, Below.refl _ _⟩
  · have C := hid (q_nofield ho hp hk hi hf w h)
    have e2 : getM os p kind i = (0, (fieldM os p kind i).2) := by unfold getM; rw [if_neg hf]
    rw [e2]
    obtain ⟨gh, rfl⟩ := h.ptr
    obtain ⟨q, hq⟩ : ∃ q, q = (fieldM os p kind i).2 := ⟨_, rfl⟩
    rw [← hq] at C hf ⊢
    simp only
    have ek : (q != 0) = true := by simp; omega
    clear h hq e2
    go_enter Try.func83, Try.ntmps83
    go_wp2_with (go_at_call 99; (with_reducible refine C.out.mono ?_); rintro e W1 ⟨rfl, hw1⟩; rw [hw1]; clear hw1)
    go_ret2
    exact ⟨rfl, Below.refl _ _⟩
theorem q_ishead (z : Int) (hz : U64 z) (w : World) : Calls Try.prog 78 #[.int .u64 z] w fun e w' => e = .returned (.bool (isHd z)) ∧ w' = w := by
  have C := hid (headof_any z hz w)
  have e0 : isR 8 z = isHd z := rfl
  rw [e0] at C
  obtain ⟨b, hb⟩ : ∃ b, b = isHd z := ⟨_, rfl⟩
  obtain ⟨kd, hkd⟩ : ∃ k, k = typR z := ⟨_, rfl⟩
  obtain ⟨sz, hsz⟩ : ∃ k, k = hasR 8 z := ⟨_, rfl⟩
  rw [← hb, ← hkd, ← hsz] at C
  rw [← hb]
  clear hb hkd hsz e0
  go_enter Try.func78, Try.ntmps78
  go_wp2_with (go_at_call 84; (with_reducible refine C.out.mono ?_); rintro e W1 ⟨rfl, hw1⟩; rw [hw1]; clear hw1)
  go_ret
  exact ⟨rfl, rfl⟩
theorem istype_any (k : Int) (hk : Z64 k) (w : World) : Calls Try.prog 76 #[.int .i64 k] w fun e w' => e = .returned (.bool (!decide (k < 1 ∨ 22 < k))) ∧ w' = w := by
  by_cases h1 : k < 1
  · have hd : decide (k < 1 ∨ 22 < k) = true := decide_eq_true (.inl h1)
    rw [hd]
    go_enter Try.func76, Try.ntmps76
    go_wp2
    go_ret
    exact ⟨rfl, rfl⟩
  · by_cases h2 : 22 < k
    · have hd : decide (k < 1 ∨ 22 < k) = true := decide_eq_true (.inr h2)
      rw [hd]
      have e1 : decide (k ≤ 22) = false := decide_eq_false (by omega)
      clear hd
      go_enter Try.func76, Try.ntmps76
      go_wp2
      go_ret
      exact ⟨rfl, rfl⟩
    · have hd : decide (k < 1 ∨ 22 < k) = false := decide_eq_false (by omega)
      rw [hd]
      have e1 : decide (k ≤ 22) = true := decide_eq_true (by omega)
      clear hd
      go_enter Try.func76, Try.ntmps76
      go_wp2
      go_ret
      exact ⟨rfl, rfl⟩
theorem words_set {k j : Nat} (h : k < os.length) (hj : j < (os.getD k default).f.length) (z : Int) : wordsL (os.set k (setF (os.getD k default) j z)) = (wordsL os).set (atO os k + 1 + j) z := by
  have e1 : os = os.take k ++ (os.getD k default :: os.drop (k + 1)) := by
    have := (List.take_append_drop k os).symm
    rw [List.drop_eq_getElem_cons h] at this
    rw [List.getD_eq_getElem?_getD, List.getElem?_eq_getElem h]; exact this
  have hkl : (os.take k).length = k := by rw [List.length_take]; omega
  have e2 : os.set k (setF (os.getD k default) j z) = os.take k ++ (setF (os.getD k default) j z :: os.drop (k + 1)) := by
    rw [List.set_eq_take_append_cons_drop, if_pos h]
  have hat : (wordsL (os.take k)).length = atO os k := by rw [wordsL_length]; rfl
  rw [e2]
  conv => rhs; rw [e1]
  rw [wordsL_append, wordsL_append, List.set_append_right _ _ (by rw [hat]; unfold atO; rw [← e1]; omega)]
  have hat2 : atO (os.take k ++ (os.getD k default :: os.drop (k + 1))) k = atO os k := by rw [← e1]
  rw [hat2, hat, show atO os k + 1 + j - atO os k = j + 1 by omega]
  simp only [wordsL, List.set_cons_succ, setF, List.length_set]
  rw [List.set_append_left _ _ hj]
end
end Go.Proofs.Ytdekkieajffblaa
