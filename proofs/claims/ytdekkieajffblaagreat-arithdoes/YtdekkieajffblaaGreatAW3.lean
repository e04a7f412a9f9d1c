/-
  Walk: the examples of the chapter (awake).
-/
import Derived.Test.YtdekkieajffblaaGreatW35
import Derived.Test.YtdekkieajffblaaGreatW6
import Derived.Test.YtdekkieajffblaaGreatAB3
import Derived.Test.YtdekkieajffblaaGreatG0
set_option linter.unusedVariables false
set_option linter.unusedSimpArgs false
set_option maxRecDepth 100000
namespace Go.Proofs.YtdekkieajffblaaGreat
open Go.RowKit

/-- An integer's cells lie there. -/
def ZAt (w : World) (b o : Nat) (x : Bool × List Nat) : Prop := w.cell? ⟨b, o, none⟩ = some (.bool x.1) ∧ ∃ a m c, w.cell? ⟨b, o + 1, none⟩ = some (.slice a m c) ∧ Row .u32 B32 w a m c x.2
theorem ZAt.below {w w' : World} {b o : Nat} {x : Bool × List Nat} (h : ZAt w b o x) (hl : b < w.heap.size) (hb : Below w.heap.size w w') : ZAt w' b o x := by
  obtain ⟨h1, a, m, c, h2, h3⟩ := h
  exact ⟨(hb.cell (p := ⟨b, o, none⟩) hl).trans h1, a, m, c, (hb.cell (p := ⟨b, o + 1, none⟩) hl).trans h2, h3.below hb⟩
/-- A slice of integers, which are those of l. -/
structure ZRow (w : World) (ao : Option Addr) (n cap : Nat) (l : List (Bool × List Nat)) : Prop where
  len : l.length = n
  fits : n ≤ cap
  most : cap ≤ maxLen
  nil_ : ao = none → cap = 0
  rd : l = [] ∨ ∃ b o, ao = some ⟨b, o, none⟩ ∧ b < w.heap.size ∧ ∀ i, i < l.length → ZAt w b (o + i * 2) (l.getD i default)
theorem ZRow.some {w : World} {ao : Option Addr} {n cap : Nat} {l : List (Bool × List Nat)} (h : ZRow w ao n cap l) (hl : 0 < n) :
    ∃ b o, ao = some ⟨b, o, none⟩ ∧ b < w.heap.size ∧ ∀ i, i < n → ZAt w b (o + i * 2) (l.getD i default) := by
  rcases h.rd with e | h2
  · have := h.len; simp [e] at this; omega
  · rw [h.len] at h2; exact h2
theorem ZRow.below {w w' : World} {ao : Option Addr} {n cap : Nat} {l : List (Bool × List Nat)} (h : ZRow w ao n cap l) (hb : Below w.heap.size w w') : ZRow w' ao n cap l := by
  refine ⟨h.len, h.fits, h.most, h.nil_, ?_⟩
  rcases h.rd with e | ⟨b, o, e, hl, hc⟩
  · exact .inl e
  · exact .inr ⟨b, o, e, Nat.lt_of_lt_of_le hl hb.size, fun i hi => (hc i hi).below hl hb⟩
def goodZ (x : Bool × List Nat) : Bool := goodB x.1 x.2
theorem zall_take {l : List (Bool × List Nat)} {q : Nat} (h : q < l.length) : (l.take (q + 1)).all goodZ = ((l.take q).all goodZ && goodZ (l.getD q default)) := by
  rw [List.take_succ_eq_append_getElem h, List.all_append, List.getD_eq_getElem?_getD, List.getElem?_eq_getElem h]; simp
theorem zall_off {l : List (Bool × List Nat)} {q : Nat} (h : q < l.length) (hp : goodZ (l.getD q default) = false) : l.all goodZ = false := by
  rw [List.all_eq_false]
  exact ⟨l.getD q default, by rw [List.getD_eq_getElem?_getD, List.getElem?_eq_getElem h]; exact List.getElem_mem _, by rw [hp]; decide⟩
set_option maxHeartbeats 4000000 in
theorem zgood_any (ao : Option Addr) (n cap : Nat) (l : List (Bool × List Nat)) (w : World) (R : ZRow w ao n cap l) (hn : n ≤ 1000000000) :
    Calls Tryz.prog 4 #[.slice ao n cap] w fun e w' => e = .returned (.bool (l.all goodZ)) ∧ Below w.heap.size w w' := by
  have hf := R.fits
  have hm := R.most
  have hl := R.len
  unfold maxLen at hm
  have HR := hid R
  clear R
  go_enter Tryz.func4, Tryz.ntmps4
  go_wp2_with fail
  go_loopw [3] (fun i wr => ∃ q : Nat, q ≤ n ∧ i = .int .i64 q ∧ Hid ((l.take q).all goodZ = true ∧ Below w.heap.size w wr)) (fun i _ => n - (intOf i).toNat)
  case atStart => exact ⟨0, Nat.zero_le _, rfl, by simp, Below.refl _ _⟩
  case round =>
    obtain ⟨q, hq, rfl, hI⟩ := hrel
    have HA := hid hI.out.1
    have HB := hid hI.out.2
    clear hI
    by_cases hlt : q < n
    · obtain ⟨b, o, rfl, hlb, hc⟩ := (HR.out.below HB.out).some (by omega)
      obtain ⟨c0, a, m, c, c1, hrow⟩ := hc q hlt
      have HT := hid (zall_take (l := l) (q := q) (by omega))
      have HO := hid (zall_off (l := l) (q := q) (by omega))
      obtain ⟨⟨s, lm⟩, hx⟩ : ∃ x, x = l.getD q default := ⟨_, rfl⟩
      rw [← hx] at c0 hrow HT HO
      have c0' : wr.cell? ⟨b, o + q * 2, none⟩ = some (.bool s) := c0
      have hrow : Row .u32 B32 wr a m c lm := hrow
      have C := hid (rgood_any s a m c lm wr hrow)
      have hml := hrow.len
      have hmf := hrow.fits
      have hmm := hrow.most
      unfold maxLen at hmm
      have hG : goodZ (s, lm) = goodB s lm := rfl
      have HG := hid hG
      have HL : Hid (40 < m → goodB s lm = false) := fun h => by
        cases hb : goodB s lm
        · rfl
        · have := goodB_len hb; omega
      clear hc hx c0 hrow hG
      by_cases h40 : 40 < m
      · have hgo := HO.out (by rw [HG.out]; exact HL.out h40)
        have HGO := hid hgo
        clear hgo hml
        go_wp2_with fail
        go_ret
        exact ⟨by rw [HGO.out]; rfl, HB.out⟩
      · obtain ⟨gb, hgb⟩ : ∃ g, g = goodB s lm := ⟨_, rfl⟩
        rw [← hgb] at C
        have HGB := hid hgb
        clear hgb hml
        cases gb
        · have hgo := HO.out (by rw [HG.out]; exact HGB.out.symm)
          have HGO := hid hgo
          clear hgo
          go_wp2_with (go_at_call 24; (with_reducible refine C.out.mono ?_); rintro e W1 ⟨rfl, b1⟩; have HB1 := hid (Bt HB.out b1); clear b1)
          go_ret
          exact ⟨by rw [HGO.out]; rfl, HB1.out⟩
        · go_wp2_with (go_at_call 24; (with_reducible refine C.out.mono ?_); rintro e W1 ⟨rfl, b1⟩; have HB1 := hid (Bt HB.out b1); clear b1)
          refine ⟨⟨q + 1, by omega, by go_num, ?_, HB1.out⟩, by simp [intOf] <;> omega⟩
          rw [HT.out, HA.out, HG.out, ← HGB.out]; rfl
    · obtain rfl : q = n := by omega
      rw [List.take_of_length_le (by omega)] at HA
      go_wp2_with fail
      go_ret
      exact ⟨by rw [HA.out]; rfl, HB.out⟩
/-- Two integers in a row that was made for a call. -/
theorem zrow_two {w : World} {g : Nat} {s s' : Bool} {a a' : Option Addr} {m c m' c' : Nat} {l l' : List Nat} {t : TypeId} (h : w.heap[g]? = some (.cells #[.bool s, .slice a m c, .bool s', .slice a' m' c'] t (0, 0))) (R : Row .u32 B32 w a m c l) (R' : Row .u32 B32 w a' m' c' l') : ZRow w (some ⟨g, 0, none⟩) 2 2 [(s, l), (s', l')] := by
  refine ⟨rfl, Nat.le_refl _, by unfold maxLen; omega, fun e => (by cases e), .inr ⟨g, 0, rfl, (Array.getElem?_eq_some_iff.1 h).1, fun i hi => ?_⟩⟩
  match i, hi with
  | 0, _ => exact ⟨blk_cell h 0, a, m, c, blk_cell h 1, R⟩
  | 1, _ => exact ⟨blk_cell h 2, a', m', c', blk_cell h 3, R'⟩
theorem cmpR_iff0 (s s' : Bool) (x y : Nat) : (cmpR s s' x y == 0) = true ↔ s = s' ∧ x = y := by
  by_cases h : s = s'
  · subst h
    rw [cmpR_eq]
    have h0 : cmpN x y = 0 ↔ x = y := by unfold cmpN; split <;> (try split) <;> simp <;> omega
    cases s <;> simp [h0] <;> omega
  · rw [cmpR_ne _ _ h]
    cases s <;> simp [h]
set_option maxHeartbeats 4000000 in
theorem zsame_any (x y : Value) (a b : Int) (w : World) (hx : IsInt w x a) (hy : IsInt w y b) :
    Calls Tryz.prog 17 #[x, y] w fun e w' => e = .returned (.bool (decide (a = b))) ∧ Below w.heap.size w w' := by
  obtain ⟨s, ao, n, cap, l, rfl, R, g, rfl⟩ := hx.open_
  obtain ⟨s', ao', n', cap', l', rfl, R', g', rfl⟩ := hy.open_
  have hn := R.len
  have hn' := R'.len
  have hg := goodB_len g
  have hg' := goodB_len g'
  have b0 := Baa w (.cells #[.bool s, .slice ao n cap] 40) (.cells #[.bool s', .slice ao' n' cap'] 40)
  have x1 := (Box.new 40 w s ao n cap).alloc (.cells #[.bool s', .slice ao' n' cap'] 40)
  have x2 := Box.new 40 (w.alloc (.cells #[.bool s, .slice ao n cap] 40)) s' ao' n' cap'
  rw [size_alloc] at x2
  obtain ⟨W0, hW0⟩ : ∃ W, W = (w.alloc (.cells #[.bool s, .slice ao n cap] 40)).alloc (.cells #[.bool s', .slice ao' n' cap'] 40) := ⟨_, rfl⟩
  rw [← hW0] at b0 x1 x2
  have b1 := Ba W0 (.cells #[.bool s, .slice ao n cap, .bool s', .slice ao' n' cap'] 40)
  have hz := zrow_two (blk_new W0 #[.bool s, .slice ao n cap, .bool s', .slice ao' n' cap'] 40) ((R.below b0).below b1) ((R'.below b0).below b1)
  have hs0 : W0.heap.size = w.heap.size + 1 + 1 := by rw [hW0, size_alloc, size_alloc]
  rw [hs0] at hz
  have C1 := zgood_any _ 2 2 _ _ hz (by omega)
  have hall : [(s, l), (s', l')].all goodZ = true := by simp [goodZ, g, g']
  rw [hall] at C1
  have HC1 := hid C1
  have CS : Hid (∀ W, Below w.heap.size w W → Calls Tryz.prog 47 #[.agg #[.bool s, .slice ao n cap], .agg #[.bool s', .slice ao' n' cap']] W fun e w' => e = .returned (.bool (cmpR s s' (val B32 l) (val B32 l') == 0)) ∧ Below W.heap.size W w') := fun W h => rsame_any s s' ao ao' n cap n' cap' l l' W (R.below h) (R'.below h) (by omega) (by omega)
  have hcm := cmpR_iff0 s s' (val B32 l) (val B32 l')
  rw [← sgn_inj g g'] at hcm
  obtain ⟨cb, hcb⟩ : ∃ c, c = (cmpR s s' (val B32 l) (val B32 l') == 0) := ⟨_, rfl⟩
  have hss : cb = true → s = s' := fun e => ((cmpR_iff0 s s' (val B32 l) (val B32 l')).1 (by rw [← hcb]; exact e)).1
  rw [← hcb] at CS hcm
  have hdec : decide (sgn s (val B32 l) = sgn s' (val B32 l')) = cb := by
    cases cb
    · exact decide_eq_false (fun e => by have := hcm.2 e; cases this)
    · exact decide_eq_true (hcm.1 rfl)
  rw [hdec]
  obtain ⟨c0, c1⟩ := x1.c
  obtain ⟨c2, c3⟩ := x2.c
  have HX1 := hid x1
  have HX2 := hid x2
  have HB1 := hid b1
  have HB0 := hid b0
  rw [hW0] at c0 c1 c2 c3 HC1
  clear R R' g g' hn hn' hg hg' b0 b1 x1 x2 hz C1 hs0 hall hcm hcb hdec hx hy
  cases cb
  · go_enter Tryz.func17, Tryz.ntmps17
    go_wp2_with (first
      | (go_at_call 4; (with_reducible refine HC1.out.mono ?_); rintro e W1 ⟨rfl, b2⟩; rw [← hW0] at b2; have b3 := Bt HB1.out b2; clear c0 c1 c2 c3; obtain ⟨c0, c1⟩ := (HX1.out.on b3).c; obtain ⟨c2, c3⟩ := (HX2.out.on b3).c; have HB3 := hid (Bt HB0.out b3); have C2 := hid (CS.out W1 (Bt HB0.out b3)); clear b2 b3)
      | (go_at_call 47; (with_reducible refine C2.out.mono ?_); rintro e W2 ⟨rfl, b4⟩; have HB4 := hid (Bt HB3.out b4); clear b4))
    go_ret
    exact ⟨rfl, HB4.out⟩
  · obtain rfl := hss rfl
    go_enter Tryz.func17, Tryz.ntmps17
    go_wp2_with (first
      | (go_at_call 4; (with_reducible refine HC1.out.mono ?_); rintro e W1 ⟨rfl, b2⟩; rw [← hW0] at b2; have b3 := Bt HB1.out b2; clear c0 c1 c2 c3; obtain ⟨c0, c1⟩ := (HX1.out.on b3).c; obtain ⟨c2, c3⟩ := (HX2.out.on b3).c; have HX3 := hid (HX1.out.on b3); have HX4 := hid (HX2.out.on b3); have HB3 := hid (Bt HB0.out b3); have C2 := hid (CS.out W1 (Bt HB0.out b3)); clear b2 b3)
      | (go_at_call 47; (with_reducible refine C2.out.mono ?_); rintro e W2 ⟨rfl, b4⟩; clear c0 c1 c2 c3; obtain ⟨c0, c1⟩ := (HX3.out.on b4).c; obtain ⟨c2, c3⟩ := (HX4.out.on b4).c; have HB4 := hid (Bt HB3.out b4); clear b4))
    go_ret
    exact ⟨by simp, HB4.out⟩
end Go.Proofs.YtdekkieajffblaaGreat

set_option linter.unusedVariables false
set_option linter.unusedSimpArgs false
set_option maxRecDepth 100000
namespace Go.Proofs.YtdekkieajffblaaGreat
open Go.RowKit

def aw59 : Int := wordR 1 576460752303423488 0
theorem fix59 : fixB 576460752303423488 = true := by decide
theorem big60 : fixB 1152921504606846976 = false := by decide
theorem lay59 (N : Int) : layM [] N 576460752303423488 = (aw59, 0) := by unfold layM; rw [fix59]; rfl
theorem layo59 (N : Int) : layO [] N 576460752303423488 = [] := by unfold layO; rw [fix59]; rfl
theorem num59 : numM [] aw59 = some 576460752303423488 := by
  have h := numM_lay (os := []) (N := 20) (z := 576460752303423488) (by omega) (by rw [lay59])
  rw [lay59, layo59] at h
  exact h
theorem u59 : U64 aw59 := wordR_rng _ _ _
theorem mg60 : mg 1152921504606846976 = [0, 268435456] := by
  refine (mg_is (l := [0, 268435456]) ?_ ?_ ?_).symm
  · intro x hx
    simp only [List.mem_cons, List.not_mem_nil, or_false] at hx
    rcases hx with rfl | rfl <;> decide
  · exact .inr (by simp)
  · decide
theorem need60 : needZ 1152921504606846976 = 4 := by
  unfold needZ
  rw [big60, show (1152921504606846976 : Int).natAbs = 1152921504606846976 from rfl, mg60]; rfl
theorem res59 : resZ [] 1 aw59 aw59 = (1152921504606846976, 0) := by
  have hb : bothZ [] aw59 aw59 = (576460752303423488, 576460752303423488, 0) := by unfold bothZ; rw [num59]; rfl
  unfold resZ
  rw [hb, if_neg (by omega), if_pos rfl]
  unfold reckM
  rw [if_pos rfl, bigZ_small (not_big_64 _ (by decide))]; rfl
theorem do59 : doM [] 20 1 aw59 aw59 = (1, 0) := by
  unfold doM
  rw [res59, if_pos rfl, layM_is, big60, need60]; rfl
theorem doo59 : doO [] 20 1 aw59 aw59 = [bigO 1152921504606846976] := by
  unfold doO
  rw [res59, if_pos rfl, layO_is, big60, need60]; rfl
theorem used59 : (wordsL [bigO 1152921504606846976]).length = 4 := by
  rw [wordsL_length]
  show 1 + (bigL _ _).length + 0 = 4
  rw [bigL_len, show (1152921504606846976 : Int).natAbs = 1152921504606846976 from rfl, mg60]; rfl
theorem all_nil : AllBig [] := fun x h => by cases h
theorem reck6 : reckM 6 (-7) 2 = (1, 0) := by decide
theorem reck5 : reckM 5 (-7) 2 = (-1, 0) := by decide
theorem reck4 : reckM 4 1 0 = (0, 11) := by decide
end Go.Proofs.YtdekkieajffblaaGreat

set_option linter.unusedVariables false
set_option linter.unusedSimpArgs false
set_option maxRecDepth 100000
namespace Go.Proofs.YtdekkieajffblaaGreat
open Go.RowKit

theorem zsame_true (x y : Value) (a : Int) (w : World) (hx : IsInt w x a) (hy : IsInt w y a) :
    Calls Tryz.prog 17 #[x, y] w fun e w' => e = .returned (.bool true) ∧ Below w.heap.size w w' :=
  (zsame_any x y a a w hx hy).mono fun e w' ⟨h1, h2⟩ => ⟨by rw [h1]; simp, h2⟩
theorem pnew_ok (n : Int) (h1 : 1 ≤ n) (h2 : n ≤ 4194304) (w : World) : Calls Tryz.prog 6 #[.int .i64 n] w fun e w' => ∃ v F, e = .returned (.tuple #[v, .int .i64 0]) ∧ PH w.heap.size v n [] F w' ∧ Below w.heap.size w w' := by
  refine (pnew_any n (by unfold Z64; omega) w).mono ?_
  intro e w' h
  rw [if_neg (by omega)] at h
  exact h
set_option maxHeartbeats 8000000 in
theorem arawake_any (w : World) : Calls Tryz.prog 5 #[] w fun e w' => e = .returned (.bool true) ∧ Below w.heap.size w w' := by
  have CN := hid (pnew_ok 20 (by omega) (by omega) w)
  have CL : Hid (∀ (v x : Value) (F : Nat → Prop) (W : World), PH w.heap.size v 20 [] F W → w.heap.size ≤ W.heap.size → IsInt W x 576460752303423488 → Calls Tryz.prog 8 #[v, x] W fun e w' => e = .returned (.tuple #[.int .u64 aw59, .int .i64 0]) ∧ PPost w.heap.size v 20 F W [] w') := fun v x F W h hB hi => by
    have := alay_any (os := []) os_nil x 576460752303423488 W h hi hB
    rw [lay59, layo59] at this
    exact this
  have CD : Hid (∀ (v : Value) (F : Nat → Prop) (W : World), PH w.heap.size v 20 [] F W → w.heap.size ≤ W.heap.size → Calls Tryz.prog 18 #[v, .int .i64 1, .int .u64 aw59, .int .u64 aw59] W fun e w' => e = .returned (.tuple #[.int .u64 1, .int .i64 0]) ∧ PPost w.heap.size v 20 F W (wordsL [bigO 1152921504606846976]) w') := fun v F W h hB => by
    have := ado_any (os := []) os_nil all_nil 1 aw59 aw59 u59 u59 W h hB
    rw [do59, doo59] at this
    exact this
  have CU : Hid (∀ (v : Value) (F : Nat → Prop) (W : World), PH w.heap.size v 20 (wordsL [bigO 1152921504606846976]) F W → Calls Tryz.prog 20 #[v] W fun e w' => e = .returned (.int .i64 4) ∧ Below W.heap.size W w') := fun v F W h => by
    have := pused_any W h
    rw [used59] at this
    exact this
  have CR6 : Hid (∀ (x y : Value) (W : World), IsInt W x (-7) → IsInt W y 2 → Calls Tryz.prog 26 #[.int .i64 6, x, y] W (RkPost W (1, 0))) := fun x y W hx hy => by
    have := reckon_any 6 x y (-7) 2 W hx hy
    rw [reck6] at this; exact this
  have CR5 : Hid (∀ (x y : Value) (W : World), IsInt W x (-7) → IsInt W y 2 → Calls Tryz.prog 26 #[.int .i64 5, x, y] W (RkPost W (-1, 0))) := fun x y W hx hy => by
    have := reckon_any 5 x y (-7) 2 W hx hy
    rw [reck5] at this; exact this
  have CR4 : Hid (∀ (x y : Value) (W : World), IsInt W x 1 → IsInt W y 0 → Calls Tryz.prog 26 #[.int .i64 4, x, y] W (RkPost W (0, 11))) := fun x y W hx hy => by
    have := reckon_any 4 x y 1 0 W hx hy
    rw [reck4] at this; exact this
  unfold RkPost at CR6 CR5 CR4
  obtain ⟨aw, haw⟩ : ∃ a, a = aw59 := ⟨_, rfl⟩
  rw [← haw] at CL CD
  clear haw
  go_enter Tryz.func5, Tryz.ntmps5
  go_wp2_with fail
  (with_reducible refine CN.out.mono ?_)
  rintro e W1 ⟨v, F, rfl, hP, b1⟩
  have HP1 := hid hP
  have HB1 := hid b1
  obtain ⟨gh, rfl⟩ := hP.ptr
  clear hP b1 CN
  go_wp2_with fail
  (with_reducible refine (rfrom_is 576460752303423488 _ (by decide) (by decide)).mono ?_)
  rintro e W2 ⟨x, rfl, hx, b2⟩
  have HX := hid hx
  have HP2 := hid (HP1.out.onb b2)
  have HB2 := hid (Bt HB1.out b2)
  clear hx b2 HP1 HB1
  go_wp2_with fail
  (with_reducible refine (CL.out _ x F W2 HP2.out HB2.out.size HX.out).mono ?_)
  rintro e W3 ⟨rfl, hp⟩
  have HB3 := hid (HB2.out.trans (PPost.below HP2.out hp HB2.out.size))
  obtain ⟨F3, hp3, _, _⟩ := hp
  have HP3 := hid hp3
  clear hp3 HX HP2 HB2 CL
  go_wp2_with fail
  (with_reducible refine (CD.out _ F3 W3 HP3.out HB3.out.size).mono ?_)
  rintro e W4 ⟨rfl, hp⟩
  have HB4 := hid (HB3.out.trans (PPost.below HP3.out hp HB3.out.size))
  obtain ⟨F4, hp4, _, _⟩ := hp
  have HP4 := hid hp4
  clear hp4 HP3 HB3 CD
  go_wp2_with fail
  (with_reducible refine (rfrom_is (-7) _ (by decide) (by decide)).mono ?_)
  rintro e W5 ⟨x7, rfl, i7, b5⟩
  have I7 := hid i7
  have HP5 := hid (HP4.out.onb b5)
  have HB5 := hid (Bt HB4.out b5)
  clear i7 b5 HP4 HB4
  go_wp2_with fail
  (with_reducible refine (rfrom_is 2 _ (by decide) (by decide)).mono ?_)
  rintro e W6 ⟨x2, rfl, i2, b6⟩
  have I7' := hid (I7.out.below b6)
  have I2 := hid i2
  have HP6 := hid (HP5.out.onb b6)
  have HB6 := hid (Bt HB5.out b6)
  clear i2 b6 HP5 HB5 I7
  go_wp2_with fail
  (with_reducible refine (CR6.out x7 x2 W6 I7'.out I2.out).mono ?_)
  rintro e W7 ⟨sm, am, nm, cm, rfl, im, b7⟩
  have v7 := Ba W7 (.cells #[.bool sm, .slice am nm cm] 40)
  have YM := hid (Box.new 40 W7 sm am nm cm)
  have IM := hid (im.below v7)
  have b7' := Bt b7 v7
  have HP7 := hid (HP6.out.onb b7')
  have HB7 := hid (Bt HB6.out b7')
  clear im b7 v7 b7' HP6 HB6 I7' I2 CR6
  go_wp2_with fail
  obtain ⟨gm, hgm⟩ : ∃ g, g = W7.heap.size := ⟨_, rfl⟩
  rw [← hgm] at YM ⊢
  generalize W7.alloc (.cells #[.bool sm, .slice am nm cm] 40) = W7' at *
  clear hgm
  (with_reducible refine (rfrom_is (-7) _ (by decide) (by decide)).mono ?_)
  rintro e W8 ⟨x7, rfl, i7, b8⟩
  have I7 := hid i7
  have YM8 := hid (YM.out.on b8)
  have IM8 := hid (IM.out.below b8)
  have HP8 := hid (HP7.out.onb b8)
  have HB8 := hid (Bt HB7.out b8)
  clear i7 b8 HP7 HB7 YM IM
  go_wp2_with fail
  (with_reducible refine (rfrom_is 2 _ (by decide) (by decide)).mono ?_)
  rintro e W9 ⟨x2, rfl, i2, b9⟩
  have I7' := hid (I7.out.below b9)
  have I2 := hid i2
  have YM9 := hid (YM8.out.on b9)
  have IM9 := hid (IM8.out.below b9)
  have HP9 := hid (HP8.out.onb b9)
  have HB9 := hid (Bt HB8.out b9)
  clear i2 b9 HP8 HB8 I7 YM8 IM8
  go_wp2_with fail
  (with_reducible refine (CR5.out x7 x2 W9 I7'.out I2.out).mono ?_)
  rintro e W10 ⟨sr, ar, nr, cr, rfl, ir, b10⟩
  have v10 := Ba W10 (.cells #[.bool sr, .slice ar nr cr] 40)
  have YR := hid (Box.new 40 W10 sr ar nr cr)
  have IR := hid (ir.below v10)
  have b10' := Bt b10 v10
  have YM10 := hid (YM9.out.on b10')
  have IM10 := hid (IM9.out.below b10')
  have HP10 := hid (HP9.out.onb b10')
  have HB10 := hid (Bt HB9.out b10')
  clear ir b10 v10 b10' HP9 HB9 I7' I2 CR5 YM9 IM9
  go_wp2_with fail
  obtain ⟨gr, hgr⟩ : ∃ g, g = W10.heap.size := ⟨_, rfl⟩
  rw [← hgr] at YR ⊢
  generalize W10.alloc (.cells #[.bool sr, .slice ar nr cr] 40) = W10' at *
  clear hgr
  (with_reducible refine (rfrom_is 1 _ (by decide) (by decide)).mono ?_)
  rintro e W11 ⟨x1, rfl, i1, b11⟩
  have I1 := hid i1
  have YM11 := hid (YM10.out.on b11)
  have IM11 := hid (IM10.out.below b11)
  have YR11 := hid (YR.out.on b11)
  have IR11 := hid (IR.out.below b11)
  have HP11 := hid (HP10.out.onb b11)
  have HB11 := hid (Bt HB10.out b11)
  clear i1 b11 HP10 HB10 YM10 IM10 YR IR
  go_wp2_with fail
  (with_reducible refine (CR4.out x1 _ W11 I1.out (zero_is _)).mono ?_)
  rintro e W12 ⟨sz, az, nz, cz, rfl, izz, b12⟩
  have v12 := Ba W12 (.cells #[.bool sz, .slice az nz cz] 40)
  have yz := Box.new 40 W12 sz az nz cz
  have b12' := Bt b12 v12
  have ym := (YM11.out.on b12').c
  have yr := (YR11.out.on b12').c
  have yzc := yz.c
  have IMW := hid (IM11.out.below b12')
  have IRW := hid (IR11.out.below b12')
  have HPW := hid (HP11.out.onb b12')
  have HBW := hid (Bt HB11.out b12')
  clear izz b12 v12 b12' HP11 HB11 CR4 YM11 IM11 YR11 IR11 I1 yz
  go_wp2_with fail
  obtain ⟨gz, hgz⟩ : ∃ g, g = W12.heap.size := ⟨_, rfl⟩
  rw [← hgz] at yzc ⊢
  generalize W12.alloc (.cells #[.bool sz, .slice az nz cz] 40) = W at *
  clear hgz
  have hS0 : W.cell? ⟨gm, 0, none⟩ = some (.bool sm) ∧ W.cell? ⟨gm, 1, none⟩ = some (.slice am nm cm) ∧ W.cell? ⟨gr, 0, none⟩ = some (.bool sr) ∧ W.cell? ⟨gr, 1, none⟩ = some (.slice ar nr cr) ∧ W.cell? ⟨gz, 0, none⟩ = some (.bool sz) ∧ W.cell? ⟨gz, 1, none⟩ = some (.slice az nz cz) ∧ Below W.heap.size W W := ⟨ym.1, ym.2, yr.1, yr.2, yzc.1, yzc.2, Below.refl _ _⟩
  have HS0 := hid hS0
  clear ym yr yzc hS0
  go_region_held3 (fun wx => wx.cell? ⟨gm, 0, none⟩ = some (.bool sm) ∧ wx.cell? ⟨gm, 1, none⟩ = some (.slice am nm cm) ∧ wx.cell? ⟨gr, 0, none⟩ = some (.bool sr) ∧ wx.cell? ⟨gr, 1, none⟩ = some (.slice ar nr cr) ∧ wx.cell? ⟨gz, 0, none⟩ = some (.bool sz) ∧ wx.cell? ⟨gz, 1, none⟩ = some (.slice az nz cz) ∧ Below W.heap.size W wx)
    (first | exact six_on HS0.out (Bd W 1) | exact six_on (by assumption) (by assumption))
    (first
      | (go_at_call 20; (with_reducible refine (CU.out _ F4 _ (HPW.out.onb ?_)).mono ?_); (exact six_bel (p := gm) (q := gr) (r := gz) (a0 := .bool sm) (a1 := .slice am nm cm) (b0 := .bool sr) (b1 := .slice ar nr cr) (c0 := .bool sz) (c1 := .slice az nz cz) (by assumption)); rintro e wu ⟨rfl, bu⟩)
      | (go_at_call_of 25 (Value.int .i64 1); (with_reducible refine (rfrom_is 1 _ (by decide) (by decide)).mono ?_); rintro e wa ⟨y1, rfl, j1, ba⟩; have J1 := hid j1; clear j1)
      | (go_at_call 25; (with_reducible refine (rfrom_is (-1) _ (by decide) (by decide)).mono ?_); rintro e wc ⟨ym1, rfl, jm1, bc⟩; have JM1 := hid jm1; clear jm1)
      | (go_at_call_of 17 y1; (with_reducible refine (zsame_true _ y1 1 _ ?_ J1.out).mono ?_); (exact IMW.out.below (six_bel (p := gm) (q := gr) (r := gz) (a0 := .bool sm) (a1 := .slice am nm cm) (b0 := .bool sr) (b1 := .slice ar nr cr) (c0 := .bool sz) (c1 := .slice az nz cz) (by assumption))); rintro e wb ⟨rfl, bb⟩)
      | (go_at_call_of 17 ym1; (with_reducible refine (zsame_true _ ym1 (-1) _ ?_ JM1.out).mono ?_); (exact IRW.out.below (six_bel (p := gm) (q := gr) (r := gz) (a0 := .bool sm) (a1 := .slice am nm cm) (b0 := .bool sr) (b1 := .slice ar nr cr) (c0 := .bool sz) (c1 := .slice az nz cz) (by assumption))); rintro e wd ⟨rfl, bd⟩))
  have HBE : Hid (Below w.heap.size w wd) := Bt HBW.out (six_bel (p := gm) (q := gr) (r := gz) (a0 := .bool sm) (a1 := .slice am nm cm) (b0 := .bool sr) (b1 := .slice ar nr cr) (c0 := .bool sz) (c1 := .slice az nz cz) (by assumption))
  rename_i hHeld
  clear hHeld
  go_wp2
  go_ret
  exact ⟨rfl, HBE.out⟩
end Go.Proofs.YtdekkieajffblaaGreat
