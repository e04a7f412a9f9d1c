/-
  Walks, of the document's answer: Sub.
-/
import Derived.Test.YtdekkieajffblaaGreatAR5
import Derived.Test.YtdekkieajffblaaGreatMath3
import Derived.Test.YtdekkieajffblaaGreatAR1
import Derived.Test.YtdekkieajffblaaGreatW22
set_option linter.unusedVariables false
set_option linter.unusedSimpArgs false
set_option maxRecDepth 100000
namespace Go.Proofs.YtdekkieajffblaaGreat
open Go.RowKit

section
variable {B : Nat} {v : Value} {N : Int} {os : List Ob} {ws : List Int} {F : Nat → Prop} {w w1 w' : World}
/-- What an operation makes of two words' integers. -/
def resZ (os : List Ob) (op p q : Int) : Int × Int := if op < 1 ∨ 6 < op then (0, 1) else if (bothZ os p q).2.2 = 0 then reckM op (bothZ os p q).1 (bothZ os p q).2.1 else (0, (bothZ os p q).2.2)
set_option maxHeartbeats 4000000 in
theorem aresult_any (ho : OsOk os) (ha : AllBig os) (op p q : Int) (hp : U64 p) (hq : U64 q) (w : World) (h : PH B v N (wordsL os) F w) :
    Calls Tryz.prog 34 #[v, .int .i64 op, .int .u64 p, .int .u64 q] w (RkPost w (resZ os op p q)) := by
  have hres : resZ os op p q = if op < 1 ∨ 6 < op then (0, 1) else if (bothZ os p q).2.2 = 0 then reckM op (bothZ os p q).1 (bothZ os p q).2.1 else (0, (bothZ os p q).2.2) := rfl
  have CO := hid (fun W : World => aisop_any op W)
  have CB : Hid (∀ W, Below w.heap.size w W → Calls Tryz.prog 42 #[v, .int .u64 p, .int .u64 q] W (BoPost W (bothZ os p q))) := fun W b => aboth_any ho ha p q hp hq W (h.onb b)
  unfold BoPost at CB
  have CR : Hid (∀ (x y : Value) (a b : Int) (W : World), IsInt W x a → IsInt W y b → Calls Tryz.prog 26 #[.int .i64 op, x, y] W (RkPost W (reckM op a b))) := fun x y a b W hx hy => reckon_any op x y a b W hx hy
  unfold RkPost at CR
  obtain ⟨gh, rfl⟩ := h.ptr
  obtain ⟨res, hr⟩ : ∃ r, r = resZ os op p q := ⟨_, rfl⟩
  rw [← hr] at hres ⊢
  obtain ⟨bz, hbz⟩ : ∃ r, r = bothZ os p q := ⟨_, rfl⟩
  rw [← hbz] at hres CB
  have b0 := Ba w (.cells #[.bool false, .slice none 0 0] 40)
  have x0 := Box.new 40 w false none 0 0
  obtain ⟨W0, hW0⟩ : ∃ W, W = w.alloc (.cells #[.bool false, .slice none 0 0] 40) := ⟨_, rfl⟩
  rw [← hW0] at b0 x0
  have HB0 := hid b0
  have HX0 := hid x0
  have C1 := hid (CO.out W0)
  have C2 := hid (CB.out W0 b0)
  rw [hW0] at C1 C2
  have FIN : Hid (∀ W (s : Bool) (a : Option Addr) (m c : Nat), Below W0.heap.size W0 W → Box 40 W w.heap.size false none 0 0 ∧ Box 40 ((W.setCell ⟨w.heap.size, 0, none⟩ (.bool s)).setCell ⟨w.heap.size, 1, none⟩ (.slice a m c)) w.heap.size s a m c ∧ Below w.heap.size w ((W.setCell ⟨w.heap.size, 0, none⟩ (.bool s)).setCell ⟨w.heap.size, 1, none⟩ (.slice a m c)) ∧ (∀ {x z}, IsInt W x z → IsInt ((W.setCell ⟨w.heap.size, 0, none⟩ (.bool s)).setCell ⟨w.heap.size, 1, none⟩ (.slice a m c)) x z)) := fun W s a m c hb =>
    ⟨HX0.out.on hb, (HX0.out.on hb).set2 s a m c, store2_below (Bt HB0.out hb) (Nat.le_refl _), fun hi => hi.setBox (HX0.out.on hb) _ _⟩
  have HZ := hid (fun W : World => zero_is W)
  have HRES := hid hres
  clear ho ha h hp hq hr hbz b0 x0 hres
  by_cases h1 : op < 1 ∨ 6 < op
  · have hop : (decide (1 ≤ op) && decide (op ≤ 6)) = false := by
      rcases h1 with h1 | h1
      · rw [decide_eq_false (show ¬ 1 ≤ op by omega)]; rfl
      · rw [decide_eq_false (show ¬ op ≤ 6 by omega), Bool.and_false]
    have hre := HRES.out
    rw [if_pos h1] at hre
    rw [hop] at C1
    subst hre
    obtain ⟨o1, o2, o3, _⟩ := FIN.out W0 false none 0 0 (Below.refl _ _)
    obtain ⟨g0, g1⟩ := o1.c
    obtain ⟨g2, g3⟩ := o1.f
    obtain ⟨t0, t1⟩ := o2.c
    have H3 := hid o3
    have HBA := hid (Ba w (.cells #[.bool false, .slice none 0 0] 40))
    rw [hW0] at g0 g1 g2 g3 t0 t1 H3
    clear o1 o2 o3 HRES h1 hop hW0
    go_enter Tryz.func34, Tryz.ntmps34
    go_wp2_with (go_at_call 63; (with_reducible refine C1.out.mono ?_); rintro e W1 ⟨rfl, hw1⟩; rw [hw1]; clear hw1)
    (try simp only [Exit.inBlock, Exit.then]); refine bodyPost_ret (v := .tuple #[.agg #[.bool false, .slice none 0 0], .int .i64 1]) (by simp [results, Tryz.results34, go_sem, t0, t1, g0, g1]) rfl ?_
    exact ⟨_, _, _, _, rfl, HZ.out _, by first | exact H3.out | exact HBA.out⟩
  · have hop : (decide (1 ≤ op) && decide (op ≤ 6)) = true := by
      rw [decide_eq_true (show 1 ≤ op by omega), decide_eq_true (show op ≤ 6 by omega)]; rfl
    rw [hop] at C1
    have hre := HRES.out
    rw [if_neg h1] at hre
    clear h1 hop HRES
    by_cases h2 : bz.2.2 = 0
    · rw [if_pos h2] at hre
      have HRE := hid hre
      have h3 : (bz.2.2 == 0) = true := by simp [h2]
      rw [h2] at C2
      clear hre h2 h3
      go_enter Tryz.func34, Tryz.ntmps34
      go_wp2_with (first
        | (go_at_call 63; (with_reducible refine C1.out.mono ?_); rintro e W1 ⟨rfl, hw1⟩; rw [hw1]; clear hw1)
        | (go_at_call 42; (with_reducible refine C2.out.mono ?_); rintro e W2 ⟨s1, a1, n1, c1, s2, a2, n2, c2, rfl, hI1, hI2, b2⟩; rw [← hW0] at b2; have v2 := Baa W2 (.cells #[.bool s1, .slice a1 n1 c1] 40) (.cells #[.bool s2, .slice a2 n2 c2] 40); have y1 := (Box.new 40 W2 s1 a1 n1 c1).alloc (.cells #[.bool s2, .slice a2 n2 c2] 40); have y2 := Box.new 40 (W2.alloc (.cells #[.bool s1, .slice a1 n1 c1] 40)) s2 a2 n2 c2; rw [size_alloc] at y2; have HB2 := hid (Bt b2 v2); obtain ⟨d0, d1⟩ := y1.c; obtain ⟨d2, d3⟩ := y2.c; have C3 := hid (CR.out _ _ _ _ _ (hI1.below v2) (hI2.below v2)); rw [← HRE.out] at C3; clear b2 v2 y1 y2 hI1 hI2)
        | (go_at_call 26; (with_reducible refine C3.out.mono ?_); rintro e W3 ⟨s3, a3, n3, c3, rfl, hI3, b3⟩; obtain ⟨o1, o2, o3, o4⟩ := FIN.out W3 s3 a3 n3 c3 (Bt HB2.out b3); obtain ⟨g0, g1⟩ := o1.c; obtain ⟨g2, g3⟩ := o1.f; obtain ⟨t0, t1⟩ := o2.c; have H3 := hid o3; have H4 := hid (o4 hI3); clear o1 o2 o3 o4 hI3 b3))
      (try simp only [Exit.inBlock, Exit.then]); refine bodyPost_ret (v := .tuple #[.agg #[.bool s3, .slice a3 n3 c3], .int .i64 res.2]) (by simp [results, Tryz.results34, go_sem, t0, t1]) rfl ?_
      exact ⟨_, _, _, _, rfl, H4.out, H3.out⟩
    · rw [if_neg h2] at hre
      have HRE := hid hre
      obtain ⟨er, her⟩ : ∃ e, e = bz.2.2 := ⟨_, rfl⟩
      rw [← her] at C2 HRE h2
      have h3 : (er == 0) = false := by simpa using h2
      clear hre her
      go_enter Tryz.func34, Tryz.ntmps34
      go_wp2_with (first
        | (go_at_call 63; (with_reducible refine C1.out.mono ?_); rintro e W1 ⟨rfl, hw1⟩; rw [hw1]; clear hw1)
        | (go_at_call 42; (with_reducible refine C2.out.mono ?_); rintro e W2 ⟨s1, a1, n1, c1, s2, a2, n2, c2, rfl, hI1, hI2, b2⟩; rw [← hW0] at b2; have v2 := Baa W2 (.cells #[.bool s1, .slice a1 n1 c1] 40) (.cells #[.bool s2, .slice a2 n2 c2] 40); obtain ⟨o1, o2, o3, o4⟩ := FIN.out _ false none 0 0 (Bt b2 v2); obtain ⟨g0, g1⟩ := o1.c; obtain ⟨g2, g3⟩ := o1.f; obtain ⟨t0, t1⟩ := o2.c; have H3 := hid o3; clear b2 v2 hI1 hI2 o1 o2 o3 o4))
      (try simp only [Exit.inBlock, Exit.then]); refine bodyPost_ret (v := .tuple #[.agg #[.bool false, .slice none 0 0], .int .i64 er]) (by simp [results, Tryz.results34, go_sem, t0, t1]) rfl ?_
      rw [HRE.out]
      exact ⟨_, _, _, _, rfl, HZ.out _, H3.out⟩
set_option maxHeartbeats 4000000 in
theorem aroom_any (ho : OsOk os) (ha : AllBig os) (op p q : Int) (hp : U64 p) (hq : U64 q) (w : World) (h : PH B v N (wordsL os) F w) :
    Calls Tryz.prog 11 #[v, .int .i64 op, .int .u64 p, .int .u64 q] w fun e w' => e = .returned (.int .i64 (needZ (resZ os op p q).1)) ∧ Below w.heap.size w w' := by
  have C1 := hid (aresult_any ho ha op p q hp hq w h)
  unfold RkPost at C1
  have CN : Hid (∀ (s : Bool) (a : Option Addr) (m c : Nat) (z : Int) (W : World), IsInt W (.agg #[.bool s, .slice a m c]) z → Calls Tryz.prog 35 #[.agg #[.bool s, .slice a m c]] W fun e w' => e = .returned (.int .i64 (needZ z)) ∧ Below W.heap.size W w') := fun s a m c z W hi => aneed_any _ z W hi
  obtain ⟨gh, rfl⟩ := h.ptr
  obtain ⟨r, hr⟩ : ∃ r, r = resZ os op p q := ⟨_, rfl⟩
  rw [← hr] at C1 ⊢
  clear ho ha h hp hq hr
  go_enter Tryz.func11, Tryz.ntmps11
  go_wp2_with (first
    | (go_at_call 34; (with_reducible refine C1.out.mono ?_); rintro e W1 ⟨s1, a1, n1, c1, rfl, hI1, b1⟩; have v1 := Ba W1 (.cells #[.bool s1, .slice a1 n1 c1] 40); obtain ⟨d0, d1⟩ := (Box.new 40 W1 s1 a1 n1 c1).c; have HB1 := hid (Bt b1 v1); have C2 := hid (CN.out _ _ _ _ _ _ (hI1.below v1)); clear b1 v1 hI1)
    | (go_at_call 35; (with_reducible refine C2.out.mono ?_); rintro e W2 ⟨rfl, b2⟩; have HB2 := hid (Bt HB1.out b2); clear b2))
  go_ret
  exact ⟨rfl, HB2.out⟩
/-- What an operation answers, and which objects there are then. -/
def doM (os : List Ob) (N op p q : Int) : Int × Int := if (resZ os op p q).2 = 0 then layM os N (resZ os op p q).1 else (0, (resZ os op p q).2)
def doO (os : List Ob) (N op p q : Int) : List Ob := if (resZ os op p q).2 = 0 then layO os N (resZ os op p q).1 else os
set_option maxHeartbeats 4000000 in
theorem ado_any (ho : OsOk os) (ha : AllBig os) (op p q : Int) (hp : U64 p) (hq : U64 q) (w : World) (h : PH B v N (wordsL os) F w) (hB : B ≤ w.heap.size) :
    Calls Tryz.prog 18 #[v, .int .i64 op, .int .u64 p, .int .u64 q] w fun e w' => e = .returned (.tuple #[.int .u64 (doM os N op p q).1, .int .i64 (doM os N op p q).2]) ∧ PPost B v N F w (wordsL (doO os N op p q)) w' := by
  have C1 := hid (aresult_any ho ha op p q hp hq w h)
  unfold RkPost at C1
  have CL : Hid (∀ (s : Bool) (a : Option Addr) (m c : Nat) (z : Int) (W : World), Below w.heap.size w W → IsInt W (.agg #[.bool s, .slice a m c]) z → Calls Tryz.prog 8 #[v, .agg #[.bool s, .slice a m c]] W fun e w' => e = .returned (.tuple #[.int .u64 (layM os N z).1, .int .i64 (layM os N z).2]) ∧ PPost B v N F w (wordsL (layO os N z)) w') := fun s a m c z W b hi => by
    refine (alay_any ho _ z W (h.onb b) hi (Nat.le_trans hB b.size)).mono ?_
    rintro e w' ⟨rfl, hp⟩
    exact ⟨rfl, PPost.front b hp⟩
  have HS : Hid (∀ w', Below w.heap.size w w' → PPost B v N F w (wordsL os) w') := fun w' b => PPost.still h b
  have hm : doM os N op p q = if (resZ os op p q).2 = 0 then layM os N (resZ os op p q).1 else (0, (resZ os op p q).2) := rfl
  have hO : doO os N op p q = if (resZ os op p q).2 = 0 then layO os N (resZ os op p q).1 else os := rfl
  rw [hm, hO]
  obtain ⟨gh, rfl⟩ := h.ptr
  obtain ⟨r, hr⟩ : ∃ r, r = resZ os op p q := ⟨_, rfl⟩
  rw [← hr] at C1 ⊢
  clear ho ha h hp hq hr hm hO hB
  by_cases h1 : r.2 = 0
  · rw [if_pos h1, if_pos h1]
    rw [h1] at C1
    obtain ⟨z, hz⟩ : ∃ z, z = r.1 := ⟨_, rfl⟩
    rw [← hz] at C1 ⊢
    clear h1 hz
    go_enter Tryz.func18, Tryz.ntmps18
    go_wp2_with (first
      | (go_at_call 34; (with_reducible refine C1.out.mono ?_); rintro e W1 ⟨s1, a1, n1, c1, rfl, hI1, b1⟩; have v1 := Ba W1 (.cells #[.bool s1, .slice a1 n1 c1] 40); obtain ⟨d0, d1⟩ := (Box.new 40 W1 s1 a1 n1 c1).c; have C2 := hid (CL.out _ _ _ _ _ _ (Bt b1 v1) (hI1.below v1)); clear b1 v1 hI1)
      | (go_at_call 8; (with_reducible refine C2.out.mono ?_); rintro e W2 ⟨rfl, hp2⟩; have HP2 := hid hp2; clear hp2))
    go_ret2
    exact ⟨rfl, HP2.out⟩
  · rw [if_neg h1, if_neg h1]
    obtain ⟨er, her⟩ : ∃ z, z = r.2 := ⟨_, rfl⟩
    rw [← her] at C1 h1 ⊢
    have h3 : (er == 0) = false := by simpa using h1
    clear her
    go_enter Tryz.func18, Tryz.ntmps18
    go_wp2_with (go_at_call 34; (with_reducible refine C1.out.mono ?_); rintro e W1 ⟨s1, a1, n1, c1, rfl, hI1, b1⟩; have v1 := Ba W1 (.cells #[.bool s1, .slice a1 n1 c1] 40); have HB1 := hid (Bt b1 v1); clear b1 v1 hI1)
    go_ret2
    exact ⟨rfl, HS.out _ HB1.out⟩
end
end Go.Proofs.YtdekkieajffblaaGreat

set_option linter.unusedVariables false
set_option linter.unusedSimpArgs false
namespace Go.Proofs.YtdekkieajffblaaGreat
open Go.RowKit

theorem radd_is (x y : Value) (a b : Int) (w : World) (hx : IsInt w x a) (hy : IsInt w y b) : Calls Tryz.prog 73 #[x, y] w (AddPost w (a + b)) := by
  obtain ⟨s, ao, n, cap, l, rfl, R, g, rfl⟩ := hx.open_
  obtain ⟨s', ao', n', cap', l', rfl, R', g', rfl⟩ := hy.open_
  exact radd_any s s' ao ao' n cap n' cap' l l' w R R' (by rw [← R.len]; exact goodB_len g) (by rw [← R'.len]; exact goodB_len g')

set_option maxHeartbeats 4000000 in
theorem rsub_any (neg neg' : Bool) (ao ao' : Option Addr) (n cap n' cap' : Nat) (l l' : List Nat) (w : World) (R : Row .u32 B32 w ao n cap l) (R' : Row .u32 B32 w ao' n' cap' l') (g1 : goodB neg l = true) (g2 : goodB neg' l' = true) :
    Calls Tryz.prog 74 #[.agg #[.bool neg, .slice ao n cap], .agg #[.bool neg', .slice ao' n' cap']] w (AddPost w (sgn neg (val B32 l) + - sgn neg' (val B32 l'))) := by
  have HR := hid R
  have HR' := hid R'
  have G1 := hid g1
  have G2 := hid g2
  clear R R' g1 g2
  go_enter Tryz.func74, Tryz.ntmps74
  go_wp2_with fail
  obtain ⟨x1, x2, x3, hb0⟩ := three_boxes 40 w neg neg' false ao ao' none n cap n' cap' 0 0 _ rfl
  generalize hW0 : (((w.alloc (.cells #[.bool neg, .slice ao n cap] 40)).alloc (.cells #[.bool neg', .slice ao' n' cap'] 40)).alloc (.cells #[.bool false, .slice none 0 0] 40)) = W0 at *
  clear hW0
  have HS : Hid (W0.cell? ⟨w.heap.size, 0, none⟩ = some (.bool neg) ∧ W0.cell? ⟨w.heap.size, 1, none⟩ = some (.slice ao n cap) ∧ W0.cell? ⟨w.heap.size + 1, 0, none⟩ = some (.bool neg') ∧ W0.cell? ⟨w.heap.size + 1, 1, none⟩ = some (.slice ao' n' cap')) := ⟨x1.c.1, x1.c.2, x2.c.1, x2.c.2⟩
  have IA : Hid (IsInt W0 (.agg #[.bool neg, .slice ao n cap]) (sgn neg (val B32 l))) := ⟨neg, l, ⟨ao, n, cap, rfl, HR.out.below hb0⟩, G1.out, rfl⟩
  have RW' := hid (HR'.out.below hb0)
  have Y3 := hid x3
  have HB0 := hid hb0
  clear x1 x2 x3 hb0 HR HR'
  go_region_held3 (fun wx => wx.cell? ⟨w.heap.size, 0, none⟩ = some (.bool neg) ∧ wx.cell? ⟨w.heap.size, 1, none⟩ = some (.slice ao n cap) ∧ wx.cell? ⟨w.heap.size + 1, 0, none⟩ = some (.bool neg') ∧ wx.cell? ⟨w.heap.size + 1, 1, none⟩ = some (.slice ao' n' cap'))
    (first | exact keep4 HS.out (Bd W0 1) | exact keep4 (by assumption) (by assumption) | exact keep4s (by assumption) (by omega) (by omega))
    (first
      | (go_at_call 100; refine (rneg_any neg' ao' n' cap' l' _ ?_ G2.out).mono ?_; (exact RW'.out.below (Bd W0 1)); rintro e wa ⟨xb, rfl, ib, ba⟩; have IB := hid ib; clear ib)
      | (go_at_call 73; refine (radd_is (.agg #[.bool neg, .slice ao n cap]) xb (sgn neg (val B32 l)) (- sgn neg' (val B32 l')) _ ?_ ?_).mono ?_; (exact (IA.out.below (Bd W0 1)).below ba); (exact IB.out); rintro e wb ⟨x, en, rfl, hA, bb⟩; obtain ⟨sx, ax, nx, cx, lx, rfl, Rx, hAx⟩ := hA.form; have Z3 := ((Y3.out.on (Bd W0 1)).on ba).on bb; obtain ⟨z30, z31⟩ := Z3.c; obtain ⟨f30, f31⟩ := Z3.f; have HZ := hid Z3; have HRx := hid Rx; have HAx := hid hAx; clear hA Rx hAx Z3))
  have hbW : Below w.heap.size w wb := Bt (Bt (Bt HB0.out (Bd W0 1)) ba) bb
  have z := HZ.out.set2 sx ax nx cx
  obtain ⟨y0, y1⟩ := z.c
  have rx := HAx.out _ (HRx.out.setBox2 HZ.out sx (.slice ax nx cx))
  have bF := (hbW.setCell (p := ⟨w.heap.size + 1 + 1, 0, none⟩) (by simp; omega) (.bool sx)).setCell (p := ⟨w.heap.size + 1 + 1, 1, none⟩) (by simp; omega) (.slice ax nx cx)
  rename_i hHeld
  clear hHeld
  go_wp2
  exact bodyPost_ret (v := .tuple #[.agg #[.bool sx, .slice ax nx cx], .int .i64 en]) (by simp [results, Tryz.results74, go_sem, y0, y1]) rfl ⟨_, _, rfl, rx, bF⟩

end Go.Proofs.YtdekkieajffblaaGreat
