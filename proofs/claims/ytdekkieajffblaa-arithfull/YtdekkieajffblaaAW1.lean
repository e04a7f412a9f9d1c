/-
  Walks of the statements' own: good, same.
-/
import Derived.Test.YtdekkieajffblaaAR6
import Derived.Test.YtdekkieajffblaaW6
set_option linter.unusedVariables false
set_option linter.unusedSimpArgs false
set_option maxRecDepth 100000
namespace Go.Proofs.Ytdekkieajffblaa
open Go.RowKit

/-- An integer's cells lie there. -/
def ZAt (w : World) (b o : Nat) (x : Bool × List Nat) : Prop := w.cell? ⟨b, o, none⟩ = some (.bool x.1) ∧ ∃ a m c, w.cell? ⟨b, o + 1, none⟩ = some (.slice a m c) ∧ Row .u32 B32 w a m c x.2
theorem ZAt.below {w w' : World} {b o : Nat} {x : Bool × List Nat} (h : ZAt w b o x) (hl : b < w.heap.size) (hb : Below w.heap.size w w') : ZAt w' b o x := by
  obtain ⟨h1, a, m, c, h2, h3⟩ := h
  exact ⟨(hb.cell (p := ⟨b, o, none⟩) hl).trans h1, a, m, c, (hb.cell (p := ⟨b, o + 1, none⟩) hl).trans h2, h3.below hb⟩
/-- A slice of integers, which are those of l. -/
structure ZRow (w : World) (ao : Option Addr) (n cap : Nat) (l : List (Bool × List Nat)) : Prop where
  len : l.length = n
  fits : n ≤ cap
  most : cap ≤ maxLen
  nil_ : ao = none → cap = 0
  rd : l = [] ∨ ∃ b o, ao = some ⟨b, o, none⟩ ∧ b < w.heap.size ∧ ∀ i, i < l.length → ZAt w b (o + i * 2) (l.getD i default)
theorem ZRow.some {w : World} {ao : Option Addr} {n cap : Nat} {l : List (Bool × List Nat)} (h : ZRow w ao n cap l) (hl : 0 < n) :
    ∃ b o, ao = some ⟨b, o, none⟩ ∧ b < w.heap.size ∧ ∀ i, i < n → ZAt w b (o + i * 2) (l.getD i default) := by
  rcases h.rd with e | h2
  · have := h.len; simp [e] at this; omega
  · rw [h.len] at h2; exact h2
theorem ZRow.below {w w' : World} {ao : Option Addr} {n cap : Nat} {l : List (Bool × List Nat)} (h : ZRow w ao n cap l) (hb : Below w.heap.size w w') : ZRow w' ao n cap l := by
  refine ⟨h.len, h.fits, h.most, h.nil_, ?_⟩
  rcases h.rd with e | ⟨b, o, e, hl, hc⟩
  · exact .inl e
  · exact .inr ⟨b, o, e, Nat.lt_of_lt_of_le hl hb.size, fun i hi => (hc i hi).below hl hb⟩
def goodZ (x : Bool × List Nat) : Bool := goodB x.1 x.2
theorem zall_take {l : List (Bool × List Nat)} {q : Nat} (h : q < l.length) : (l.take (q + 1)).all goodZ = ((l.take q).all goodZ && goodZ (l.getD q default)) := by
  rw [List.take_succ_eq_append_getElem h, List.all_append, List.getD_eq_getElem?_getD, List.getElem?_eq_getElem h]; simp
theorem zall_off {l : List (Bool × List Nat)} {q : Nat} (h : q < l.length) (hp : goodZ (l.getD q default) = false) : l.all goodZ = false := by
  rw [List.all_eq_false]
  exact ⟨l.getD q default, by rw [List.getD_eq_getElem?_getD, List.getElem?_eq_getElem h]; exact List.getElem_mem _, by rw [hp]; decide⟩
set_option maxHeartbeats 4000000 in
theorem zgood_any (ao : Option Addr) (n cap : Nat) (l : List (Bool × List Nat)) (w : World) (R : ZRow w ao n cap l) (hn : n ≤ 1000000000) :
    Calls Try.prog 7 #[.slice ao n cap] w fun e w' => e = .returned (.bool (l.all goodZ)) ∧ Below w.heap.size w w' := by
  have hf := R.fits
  have hm := R.most
  have hl := R.len
  unfold maxLen at hm
  have HR := hid R
  clear R
  go_enter Try.func7, Try.ntmps7
  go_wp2_with fail
  go_loopw [3] (fun i wr => ∃ q : Nat, q ≤ n ∧ i = .int .i64 q ∧ Hid ((l.take q).all goodZ = true ∧ Below w.heap.size w wr)) (fun i _ => n - (intOf i).toNat)
  case atStart => exact ⟨0, Nat.zero_le _, rfl, by simp, Below.refl _ _⟩
  case round =>
    obtain ⟨q, hq, rfl, hI⟩ := hrel
    have HA := hid hI.out.1
    have HB := hid hI.out.2
    clear hI
    by_cases hlt : q < n
    · obtain ⟨b, o, rfl, hlb, hc⟩ := (HR.out.below HB.out).some (by omega)
      obtain ⟨c0, a, m, c, c1, hrow⟩ := hc q hlt
      have HT := hid (zall_take (l := l) (q := q) (by omega))
      have HO := hid (zall_off (l := l) (q := q) (by omega))
      obtain ⟨⟨s, lm⟩, hx⟩ : ∃ x, x = l.getD q default := ⟨_, rfl⟩
      rw [← hx] at c0 hrow HT HO
      have c0' : wr.cell? ⟨b, o + q * 2, none⟩ = some (.bool s) := c0
      have hrow : Row .u32 B32 wr a m c lm := hrow
      have C := hid (rgood_any s a m c lm wr hrow)
      have hml := hrow.len
      have hmf := hrow.fits
      have hmm := hrow.most
      unfold maxLen at hmm
      have hG : goodZ (s, lm) = goodB s lm := rfl
      have HG := hid hG
      have HL : Hid (40 < m → goodB s lm = false) := fun h => by
        cases hb : goodB s lm
        · rfl
        · have := goodB_len hb; omega
      clear hc hx c0 hrow hG
      by_cases h40 : 40 < m
      · have hgo := HO.out (by rw [HG.out]; exact HL.out h40)
        have HGO := hid hgo
        clear hgo hml
        go_wp2_with fail
        go_ret
        exact ⟨by rw [HGO.out]; rfl, HB.out⟩
      · obtain ⟨gb, hgb⟩ : ∃ g, g = goodB s lm := ⟨_, rfl⟩
        rw [← hgb] at C
        have HGB := hid hgb
        clear hgb hml
        cases gb
        · have hgo := HO.out (by rw [HG.out]; exact HGB.out.symm)
          have HGO := hid hgo
          clear hgo
          go_wp2_with (go_at_call 21; (with_reducible refine C.out.mono ?_); rintro e W1 ⟨rfl, b1⟩; have HB1 := hid (Bt HB.out b1); clear b1)
          go_ret
          exact ⟨by rw [HGO.out]; rfl, HB1.out⟩
        · go_wp2_with (go_at_call 21; (with_reducible refine C.out.mono ?_); rintro e W1 ⟨rfl, b1⟩; have HB1 := hid (Bt HB.out b1); clear b1)
          refine ⟨⟨q + 1, by omega, by go_num, ?_, HB1.out⟩, by simp [intOf] <;> omega⟩
          rw [HT.out, HA.out, HG.out, ← HGB.out]; rfl
    · obtain rfl : q = n := by omega
      rw [List.take_of_length_le (by omega)] at HA
      go_wp2_with fail
      go_ret
      exact ⟨by rw [HA.out]; rfl, HB.out⟩
/-- Two integers in a row that was made for a call. -/
theorem zrow_two {w : World} {g : Nat} {s s' : Bool} {a a' : Option Addr} {m c m' c' : Nat} {l l' : List Nat} {t : TypeId} (h : w.heap[g]? = some (.cells #[.bool s, .slice a m c, .bool s', .slice a' m' c'] t (0, 0))) (R : Row .u32 B32 w a m c l) (R' : Row .u32 B32 w a' m' c' l') : ZRow w (some ⟨g, 0, none⟩) 2 2 [(s, l), (s', l')] := by
  refine ⟨rfl, Nat.le_refl _, by unfold maxLen; omega, fun e => (by cases e), .inr ⟨g, 0, rfl, (Array.getElem?_eq_some_iff.1 h).1, fun i hi => ?_⟩⟩
  match i, hi with
  | 0, _ => exact ⟨blk_cell h 0, a, m, c, blk_cell h 1, R⟩
  | 1, _ => exact ⟨blk_cell h 2, a', m', c', blk_cell h 3, R'⟩
theorem cmpR_iff0 (s s' : Bool) (x y : Nat) : (cmpR s s' x y == 0) = true ↔ s = s' ∧ x = y := by
  by_cases h : s = s'
  · subst h
    rw [cmpR_eq]
    have h0 : cmpN x y = 0 ↔ x = y := by unfold cmpN; split <;> (try split) <;> simp <;> omega
    cases s <;> simp [h0] <;> omega
  · rw [cmpR_ne _ _ h]
    cases s <;> simp [h]
set_option maxHeartbeats 4000000 in
theorem zsame_any (x y : Value) (a b : Int) (w : World) (hx : IsInt w x a) (hy : IsInt w y b) :
    Calls Try.prog 11 #[x, y] w fun e w' => e = .returned (.bool (decide (a = b))) ∧ Below w.heap.size w w' := by
  obtain ⟨s, ao, n, cap, l, rfl, R, g, rfl⟩ := hx.open_
  obtain ⟨s', ao', n', cap', l', rfl, R', g', rfl⟩ := hy.open_
  have hn := R.len
  have hn' := R'.len
  have hg := goodB_len g
  have hg' := goodB_len g'
  have b0 := Baa w (.cells #[.bool s, .slice ao n cap] 24) (.cells #[.bool s', .slice ao' n' cap'] 24)
  have x1 := (Box.new 24 w s ao n cap).alloc (.cells #[.bool s', .slice ao' n' cap'] 24)
  have x2 := Box.new 24 (w.alloc (.cells #[.bool s, .slice ao n cap] 24)) s' ao' n' cap'
  rw [size_alloc] at x2
  obtain ⟨W0, hW0⟩ : ∃ W, W = (w.alloc (.cells #[.bool s, .slice ao n cap] 24)).alloc (.cells #[.bool s', .slice ao' n' cap'] 24) := ⟨_, rfl⟩
  rw [← hW0] at b0 x1 x2
  have b1 := Ba W0 (.cells #[.bool s, .slice ao n cap, .bool s', .slice ao' n' cap'] 24)
  have hz := zrow_two (blk_new W0 #[.bool s, .slice ao n cap, .bool s', .slice ao' n' cap'] 24) ((R.below b0).below b1) ((R'.below b0).below b1)
  have hs0 : W0.heap.size = w.heap.size + 1 + 1 := by rw [hW0, size_alloc, size_alloc]
  rw [hs0] at hz
  have C1 := zgood_any _ 2 2 _ _ hz (by omega)
  have hall : [(s, l), (s', l')].all goodZ = true := by simp [goodZ, g, g']
  rw [hall] at C1
  have HC1 := hid C1
  have CS : Hid (∀ W, Below w.heap.size w W → Calls Try.prog 32 #[.agg #[.bool s, .slice ao n cap], .agg #[.bool s', .slice ao' n' cap']] W fun e w' => e = .returned (.bool (cmpR s s' (val B32 l) (val B32 l') == 0)) ∧ Below W.heap.size W w') := fun W h => rsame_any s s' ao ao' n cap n' cap' l l' W (R.below h) (R'.below h) (by omega) (by omega)
  have hcm := cmpR_iff0 s s' (val B32 l) (val B32 l')
  rw [← sgn_inj g g'] at hcm
  obtain ⟨cb, hcb⟩ : ∃ c, c = (cmpR s s' (val B32 l) (val B32 l') == 0) := ⟨_, rfl⟩
  have hss : cb = true → s = s' := fun e => ((cmpR_iff0 s s' (val B32 l) (val B32 l')).1 (by rw [← hcb]; exact e)).1
  rw [← hcb] at CS hcm
  have hdec : decide (sgn s (val B32 l) = sgn s' (val B32 l')) = cb := by
    cases cb
    · exact decide_eq_false (fun e => by have := hcm.2 e; cases this)
    · exact decide_eq_true (hcm.1 rfl)
  rw [hdec]
  obtain ⟨c0, c1⟩ := x1.c
  obtain ⟨c2, c3⟩ := x2.c
  have HX1 := hid x1
  have HX2 := hid x2
  have HB1 := hid b1
  have HB0 := hid b0
  rw [hW0] at c0 c1 c2 c3 HC1
  clear R R' g g' hn hn' hg hg' b0 b1 x1 x2 hz C1 hs0 hall hcm hcb hdec hx hy
  cases cb
  · go_enter Try.func11, Try.ntmps11
    go_wp2_with (first
      | (go_at_call 7; (with_reducible refine HC1.out.mono ?_); rintro e W1 ⟨rfl, b2⟩; rw [← hW0] at b2; have b3 := Bt HB1.out b2; clear c0 c1 c2 c3; obtain ⟨c0, c1⟩ := (HX1.out.on b3).c; obtain ⟨c2, c3⟩ := (HX2.out.on b3).c; have HB3 := hid (Bt HB0.out b3); have C2 := hid (CS.out W1 (Bt HB0.out b3)); clear b2 b3)
      | (go_at_call 32; (with_reducible refine C2.out.mono ?_); rintro e W2 ⟨rfl, b4⟩; have HB4 := hid (Bt HB3.out b4); clear b4))
    go_ret
    exact ⟨rfl, HB4.out⟩
  · obtain rfl := hss rfl
    go_enter Try.func11, Try.ntmps11
    go_wp2_with (first
      | (go_at_call 7; (with_reducible refine HC1.out.mono ?_); rintro e W1 ⟨rfl, b2⟩; rw [← hW0] at b2; have b3 := Bt HB1.out b2; clear c0 c1 c2 c3; obtain ⟨c0, c1⟩ := (HX1.out.on b3).c; obtain ⟨c2, c3⟩ := (HX2.out.on b3).c; have HX3 := hid (HX1.out.on b3); have HX4 := hid (HX2.out.on b3); have HB3 := hid (Bt HB0.out b3); have C2 := hid (CS.out W1 (Bt HB0.out b3)); clear b2 b3)
      | (go_at_call 32; (with_reducible refine C2.out.mono ?_); rintro e W2 ⟨rfl, b4⟩; clear c0 c1 c2 c3; obtain ⟨c0, c1⟩ := (HX3.out.on b4).c; obtain ⟨c2, c3⟩ := (HX4.out.on b4).c; have HB4 := hid (Bt HB3.out b4); clear b4))
    go_ret
    exact ⟨by simp, HB4.out⟩
end Go.Proofs.Ytdekkieajffblaa
