import Derived.Test.YtdekkieajffblaaGreatDoorAR5
import Derived.Test.YtdekkieajffblaaGreatDoorW6
import Derived.Test.YtdekkieajffblaaGreatDoorAB2
set_option linter.unusedVariables false
set_option linter.unusedSimpArgs false
set_option maxRecDepth 100000
namespace Go.Proofs.YtdekkieajffblaaGreatDoor
open Go.RowKit
section
variable {B : Nat} {v : Value} {N : Int} {os : List Ob} {ws : List Int} {F : Nat -> Prop} {w w1 w' : World}
def resZ (os : List Ob) (op p q : Int) : Int × Int := if op < 1 \/ 6 < op then (0, 1) else if (bothZ os p q).2.2 = 0 then reckM op (bothZ os p q).1 (bothZ os p q).2.1 else (0, (bothZ os p q).2.2)
set_option maxHeartbeats 4000000 in
theorem aresult_any (ho : OsOk os) (ha : AllBig os) (op p q : Int) (hp : U64 p) (hq : U64 q) (w : World) (h : PH B v N (wordsL os) F w) :
  Calls Tryz.prog 26 #[v, .int .i64 op, .int .u64 p, .int .u64 q] w (RkPost w (resZ os op p q)) := by
 have hres : resZ os op p q = if op < 1 \/ 6 < op then (0, 1) else if (bothZ os p q).2.2 = 0 then reckM op (bothZ os p q).1 (bothZ os p q).2.1 else (0, (bothZ os p q).2.2) := rfl
 have CO := hid (fun W : World => aisop_any op W)
 have CB : Hid (∀ W, Below w.heap.size w W -> Calls Tryz.prog 19 #[v, .int .u64 p, .int .u64 q] W (BoPost W (bothZ os p q))) := fun W b => aboth_any ho ha p q hp hq W (h.onb b)
 unfold BoPost at CB
 have CR : Hid (∀ (x y : Value) (a b : Int) (W : World), IsInt W x a -> IsInt W y b -> Calls Tryz.prog 16 #[.int .i64 op, x, y] W (RkPost W (reckM op a b))) := fun x y a b W hx hy => reckon_any op x y a b W hx hy
 unfold RkPost at CR
 obtain ⟨gh, rfl⟩ := h.ptr
 obtain ⟨res, hr⟩ : ∃ r, r = resZ os op p q := ⟨_, rfl⟩
 rw [<- hr] at hres ⊢
 obtain ⟨bz, hbz⟩ : ∃ r, r = bothZ os p q := ⟨_, rfl⟩
 rw [<- hbz] at hres CB
 have b0 := Ba w (.cells #[.bool false, .slice none 0 0] 24)
 have x0 := Box.new 24 w false none 0 0
 obtain ⟨W0, hW0⟩ : ∃ W, W = w.alloc (.cells #[.bool false, .slice none 0 0] 24) := ⟨_, rfl⟩
 rw [<- hW0] at b0 x0
 have HB0 := hid b0
 have HX0 := hid x0
 have C1 := hid (CO.out W0)
 have C2 := hid (CB.out W0 b0)
 rw [hW0] at C1 C2
 have FIN : Hid (∀ W (s : Bool) (a : Option Addr) (m c : Nat), Below W0.heap.size W0 W -> Box 24 W w.heap.size false none 0 0 /\ Box 24 ((W.setCell ⟨w.heap.size, 0, none⟩ (.bool s)).setCell ⟨w.heap.size, 1, none⟩ (.slice a m c)) w.heap.size s a m c /\ Below w.heap.size w ((W.setCell ⟨w.heap.size, 0, none⟩ (.bool s)).setCell ⟨w.heap.size, 1, none⟩ (.slice a m c)) /\ (∀ {x z}, IsInt W x z -> IsInt ((W.setCell ⟨w.heap.size, 0, none⟩ (.bool s)).setCell ⟨w.heap.size, 1, none⟩ (.slice a m c)) x z)) := fun W s a m c hb =>
  ⟨HX0.out.on hb, (HX0.out.on hb).set2 s a m c, store2_below (Bt HB0.out hb) (Nat.le_refl _), fun hi => hi.setBox (HX0.out.on hb) _ _⟩
 have HZ := hid (fun W : World => zero_is W)
 have HRES := hid hres
 clear ho ha h hp hq hr hbz b0 x0 hres
 by_cases h1 : op < 1 \/ 6 < op
 ·have hop : (decide (1 <= op) && decide (op <= 6)) = false := by
   rcases h1 with h1 | h1
   ·rw [decide_eq_false (show ¬ 1 <= op by omega)]; rfl
   ·rw [decide_eq_false (show ¬ op <= 6 by omega), Bool.and_false]
  have hre := HRES.out
  rw [if_pos h1] at hre
  rw [hop] at C1
  subst hre
  obtain ⟨o1, o2, o3, _⟩ := FIN.out W0 false none 0 0 (Below.refl _ _)
  obtain ⟨g0, g1⟩ := o1.c
  obtain ⟨g2, g3⟩ := o1.f
  obtain ⟨t0, t1⟩ := o2.c
  have H3 := hid o3
  have HBA := hid (Ba w (.cells #[.bool false, .slice none 0 0] 24))
  rw [hW0] at g0 g1 g2 g3 t0 t1 H3
  clear o1 o2 o3 HRES h1 hop hW0
  go_enter Tryz.func26, Tryz.ntmps26
  go_wp2_with (go_at_call 45; (with_reducible refine C1.out.mono ?_); rintro e W1 ⟨rfl, hw1⟩; rw [hw1]; clear hw1)
  (try simp only [Exit.inBlock, Exit.then]); refine bodyPost_ret (v := .tuple #[.agg #[.bool false, .slice none 0 0], .int .i64 1]) (by simp [results, Tryz.results26, go_sem, t0, t1, g0, g1]) rfl ?_
  exact ⟨_, _, _, _, rfl, HZ.out _, by first | exact H3.out | exact HBA.out⟩
 ·have hop : (decide (1 <= op) && decide (op <= 6)) = true := by
   rw [decide_eq_true (show 1 <= op by omega), decide_eq_true (show op <= 6 by omega)]; rfl
  rw [hop] at C1
  have hre := HRES.out
  rw [if_neg h1] at hre
  clear h1 hop HRES
  by_cases h2 : bz.2.2 = 0
  ·rw [if_pos h2] at hre
   have HRE := hid hre
   have h3 : (bz.2.2 == 0) = true := by simp [h2]
   rw [h2] at C2
   clear hre h2 h3
   go_enter Tryz.func26, Tryz.ntmps26
   go_wp2_with (first
    | (go_at_call 45; (with_reducible refine C1.out.mono ?_); rintro e W1 ⟨rfl, hw1⟩; rw [hw1]; clear hw1)
    | (go_at_call 19; (with_reducible refine C2.out.mono ?_); rintro e W2 ⟨s1, a1, n1, c1, s2, a2, n2, c2, rfl, hI1, hI2, b2⟩; rw [<- hW0] at b2; have v2 := Baa W2 (.cells #[.bool s1, .slice a1 n1 c1] 24) (.cells #[.bool s2, .slice a2 n2 c2] 24); have y1 := (Box.new 24 W2 s1 a1 n1 c1).alloc (.cells #[.bool s2, .slice a2 n2 c2] 24); have y2 := Box.new 24 (W2.alloc (.cells #[.bool s1, .slice a1 n1 c1] 24)) s2 a2 n2 c2; rw [size_alloc] at y2; have HB2 := hid (Bt b2 v2); obtain ⟨d0, d1⟩ := y1.c; obtain ⟨d2, d3⟩ := y2.c; have C3 := hid (CR.out _ _ _ _ _ (hI1.below v2) (hI2.below v2)); rw [<- HRE.out] at C3; clear b2 v2 y1 y2 hI1 hI2)
    | (go_at_call 16; (with_reducible refine C3.out.mono ?_); rintro e W3 ⟨s3, a3, n3, c3, rfl, hI3, b3⟩; obtain ⟨o1, o2, o3, o4⟩ := FIN.out W3 s3 a3 n3 c3 (Bt HB2.out b3); obtain ⟨g0, g1⟩ := o1.c; obtain ⟨g2, g3⟩ := o1.f; obtain ⟨t0, t1⟩ := o2.c; have H3 := hid o3; have H4 := hid (o4 hI3); clear o1 o2 o3 o4 hI3 b3))
   (try simp only [Exit.inBlock, Exit.then]); refine bodyPost_ret (v := .tuple #[.agg #[.bool s3, .slice a3 n3 c3], .int .i64 res.2]) (by simp [results, Tryz.results26, go_sem, t0, t1]) rfl ?_
   exact ⟨_, _, _, _, rfl, H4.out, H3.out⟩
  ·rw [if_neg h2] at hre
   have HRE := hid hre
   obtain ⟨er, her⟩ : ∃ e, e = bz.2.2 := ⟨_, rfl⟩
   rw [<- her] at C2 HRE h2
   have h3 : (er == 0) = false := by simpa using h2
   clear hre her
   go_enter Tryz.func26, Tryz.ntmps26
   go_wp2_with (first
    | (go_at_call 45; (with_reducible refine C1.out.mono ?_); rintro e W1 ⟨rfl, hw1⟩; rw [hw1]; clear hw1)
    | (go_at_call 19; (with_reducible refine C2.out.mono ?_); rintro e W2 ⟨s1, a1, n1, c1, s2, a2, n2, c2, rfl, hI1, hI2, b2⟩; rw [<- hW0] at b2; have v2 := Baa W2 (.cells #[.bool s1, .slice a1 n1 c1] 24) (.cells #[.bool s2, .slice a2 n2 c2] 24); obtain ⟨o1, o2, o3, o4⟩ := FIN.out _ false none 0 0 (Bt b2 v2); obtain ⟨g0, g1⟩ := o1.c; obtain ⟨g2, g3⟩ := o1.f; obtain ⟨t0, t1⟩ := o2.c; have H3 := hid o3; clear b2 v2 hI1 hI2 o1 o2 o3 o4))
   (try simp only [Exit.inBlock, Exit.then]); refine bodyPost_ret (v := .tuple #[.agg #[.bool false, .slice none 0 0], .int .i64 er]) (by simp [results, Tryz.results26, go_sem, t0, t1]) rfl ?_
   rw [HRE.out]
   exact ⟨_, _, _, _, rfl, HZ.out _, H3.out⟩
def doM (os : List Ob) (N op p q : Int) : Int × Int := if (resZ os op p q).2 = 0 then layM os N (resZ os op p q).1 else (0, (resZ os op p q).2)
def doO (os : List Ob) (N op p q : Int) : List Ob := if (resZ os op p q).2 = 0 then layO os N (resZ os op p q).1 else os
set_option maxHeartbeats 4000000 in
theorem ado_any (ho : OsOk os) (ha : AllBig os) (op p q : Int) (hp : U64 p) (hq : U64 q) (w : World) (h : PH B v N (wordsL os) F w) (hB : B <= w.heap.size) :
  Calls Tryz.prog 15 #[v, .int .i64 op, .int .u64 p, .int .u64 q] w fun e w' => e = .returned (.tuple #[.int .u64 (doM os N op p q).1, .int .i64 (doM os N op p q).2]) /\ PPost B v N F w (wordsL (doO os N op p q)) w' := by
 have C1 := hid (aresult_any ho ha op p q hp hq w h)
 unfold RkPost at C1
 have CL : Hid (∀ (s : Bool) (a : Option Addr) (m c : Nat) (z : Int) (W : World), Below w.heap.size w W -> IsInt W (.agg #[.bool s, .slice a m c]) z -> Calls Tryz.prog 7 #[v, .agg #[.bool s, .slice a m c]] W fun e w' => e = .returned (.tuple #[.int .u64 (layM os N z).1, .int .i64 (layM os N z).2]) /\ PPost B v N F w (wordsL (layO os N z)) w') := fun s a m c z W b hi => by
  refine (alay_any ho _ z W (h.onb b) hi (Nat.le_trans hB b.size)).mono ?_
  rintro e w' ⟨rfl, hp⟩
  exact ⟨rfl, PPost.front b hp⟩
 have HS : Hid (∀ w', Below w.heap.size w w' -> PPost B v N F w (wordsL os) w') := fun w' b => PPost.still h b
 have hm : doM os N op p q = if (resZ os op p q).2 = 0 then layM os N (resZ os op p q).1 else (0, (resZ os op p q).2) := rfl
 have hO : doO os N op p q = if (resZ os op p q).2 = 0 then layO os N (resZ os op p q).1 else os := rfl
 rw [hm, hO]
 obtain ⟨gh, rfl⟩ := h.ptr
 obtain ⟨r, hr⟩ : ∃ r, r = resZ os op p q := ⟨_, rfl⟩
 rw [<- hr] at C1 ⊢
 clear ho ha h hp hq hr hm hO hB
 by_cases h1 : r.2 = 0
 ·rw [if_pos h1, if_pos h1]
  rw [h1] at C1
  obtain ⟨z, hz⟩ : ∃ z, z = r.1 := ⟨_, rfl⟩
  rw [<- hz] at C1 ⊢
  clear h1 hz
  go_enter Tryz.func15, Tryz.ntmps15
  go_wp2_with (first
   | (go_at_call 26; (with_reducible refine C1.out.mono ?_); rintro e W1 ⟨s1, a1, n1, c1, rfl, hI1, b1⟩; have v1 := Ba W1 (.cells #[.bool s1, .slice a1 n1 c1] 24); obtain ⟨d0, d1⟩ := (Box.new 24 W1 s1 a1 n1 c1).c; have C2 := hid (CL.out _ _ _ _ _ _ (Bt b1 v1) (hI1.below v1)); clear b1 v1 hI1)
   | (go_at_call 7; (with_reducible refine C2.out.mono ?_); rintro e W2 ⟨rfl, hp2⟩; have HP2 := hid hp2; clear hp2))
  go_ret2
  exact ⟨rfl, HP2.out⟩
 ·rw [if_neg h1, if_neg h1]
  obtain ⟨er, her⟩ : ∃ z, z = r.2 := ⟨_, rfl⟩
  rw [<- her] at C1 h1 ⊢
  have h3 : (er == 0) = false := by simpa using h1
  clear her
  go_enter Tryz.func15, Tryz.ntmps15
  go_wp2_with (go_at_call 26; (with_reducible refine C1.out.mono ?_); rintro e W1 ⟨s1, a1, n1, c1, rfl, hI1, b1⟩; have v1 := Ba W1 (.cells #[.bool s1, .slice a1 n1 c1] 24); have HB1 := hid (Bt b1 v1); clear b1 v1 hI1)
  go_ret2
  exact ⟨rfl, HS.out _ HB1.out⟩
end
def ZAt (w : World) (b o : Nat) (x : Bool × List Nat) : Prop := w.cell? ⟨b, o, none⟩ = some (.bool x.1) /\ ∃ a m c, w.cell? ⟨b, o + 1, none⟩ = some (.slice a m c) /\ Row .u32 B32 w a m c x.2
theorem ZAt.below {w w' : World} {b o : Nat} {x : Bool × List Nat} (h : ZAt w b o x) (hl : b < w.heap.size) (hb : Below w.heap.size w w') : ZAt w' b o x := by
 obtain ⟨h1, a, m, c, h2, h3⟩ := h
 exact ⟨(hb.cell (p := ⟨b, o, none⟩) hl).trans h1, a, m, c, (hb.cell (p := ⟨b, o + 1, none⟩) hl).trans h2, h3.below hb⟩
structure ZRow (w : World) (ao : Option Addr) (n cap : Nat) (l : List (Bool × List Nat)) : Prop where
 len : l.length = n
 fits : n <= cap
 most : cap <= maxLen
 nil_ : ao = none -> cap = 0
 rd : l = [] \/ ∃ b o, ao = some ⟨b, o, none⟩ /\ b < w.heap.size /\ ∀ i, i < l.length -> ZAt w b (o + i * 2) (l.getD i default)
theorem ZRow.some {w : World} {ao : Option Addr} {n cap : Nat} {l : List (Bool × List Nat)} (h : ZRow w ao n cap l) (hl : 0 < n) :
  ∃ b o, ao = some ⟨b, o, none⟩ /\ b < w.heap.size /\ ∀ i, i < n -> ZAt w b (o + i * 2) (l.getD i default) := by
 rcases h.rd with e | h2
 ·have := h.len; simp [e] at this; omega
 ·rw [h.len] at h2; exact h2
theorem ZRow.below {w w' : World} {ao : Option Addr} {n cap : Nat} {l : List (Bool × List Nat)} (h : ZRow w ao n cap l) (hb : Below w.heap.size w w') : ZRow w' ao n cap l := by
 refine ⟨h.len, h.fits, h.most, h.nil_, ?_⟩
 rcases h.rd with e | ⟨b, o, e, hl, hc⟩
 ·exact .inl e
 ·exact .inr ⟨b, o, e, Nat.lt_of_lt_of_le hl hb.size, fun i hi => (hc i hi).below hl hb⟩
def goodZ (x : Bool × List Nat) : Bool := goodB x.1 x.2
theorem zall_take {l : List (Bool × List Nat)} {q : Nat} (h : q < l.length) : (l.take (q + 1)).all goodZ = ((l.take q).all goodZ && goodZ (l.getD q default)) := by
 rw [List.take_succ_eq_append_getElem h, List.all_append, List.getD_eq_getElem?_getD, List.getElem?_eq_getElem h]; simp
theorem zall_off {l : List (Bool × List Nat)} {q : Nat} (h : q < l.length) (hp : goodZ (l.getD q default) = false) : l.all goodZ = false := by
 rw [List.all_eq_false]
 exact ⟨l.getD q default, by rw [List.getD_eq_getElem?_getD, List.getElem?_eq_getElem h]; exact List.getElem_mem _, by rw [hp]; decide⟩
set_option maxHeartbeats 4000000 in
theorem zgood_any (ao : Option Addr) (n cap : Nat) (l : List (Bool × List Nat)) (w : World) (R : ZRow w ao n cap l) (hn : n <= 1000000000) :
  Calls Tryz.prog 4 #[.slice ao n cap] w fun e w' => e = .returned (.bool (l.all goodZ)) /\ Below w.heap.size w w' := by
 have hf := R.fits
 have hm := R.most
 have hl := R.len
 unfold maxLen at hm
 have HR := hid R
 clear R
 go_enter Tryz.func4, Tryz.ntmps4
 go_wp2_with fail
 go_loopw [3] (fun i wr => ∃ q : Nat, q <= n /\ i = .int .i64 q /\ Hid ((l.take q).all goodZ = true /\ Below w.heap.size w wr)) (fun i _ => n - (intOf i).toNat)
 case atStart => exact ⟨0, Nat.zero_le _, rfl, by simp, Below.refl _ _⟩
 case round =>
  obtain ⟨q, hq, rfl, hI⟩ := hrel
  have HA := hid hI.out.1
  have HB := hid hI.out.2
  clear hI
  by_cases hlt : q < n
  ·obtain ⟨b, o, rfl, hlb, hc⟩ := (HR.out.below HB.out).some (by omega)
   obtain ⟨c0, a, m, c, c1, hrow⟩ := hc q hlt
   have HT := hid (zall_take (l := l) (q := q) (by omega))
   have HO := hid (zall_off (l := l) (q := q) (by omega))
   obtain ⟨⟨s, lm⟩, hx⟩ : ∃ x, x = l.getD q default := ⟨_, rfl⟩
   rw [<- hx] at c0 hrow HT HO
   have c0' : wr.cell? ⟨b, o + q * 2, none⟩ = some (.bool s) := c0
   have hrow : Row .u32 B32 wr a m c lm := hrow
   have C := hid (rgood_any s a m c lm wr hrow)
   have hml := hrow.len
   have hmf := hrow.fits
   have hmm := hrow.most
   unfold maxLen at hmm
   have hG : goodZ (s, lm) = goodB s lm := rfl
   have HG := hid hG
   have HL : Hid (40 < m -> goodB s lm = false) := fun h => by
    cases hb : goodB s lm
    ·rfl
    ·have := goodB_len hb; omega
   clear hc hx c0 hrow hG
   by_cases h40 : 40 < m
   ·have hgo := HO.out (by rw [HG.out]; exact HL.out h40)
    have HGO := hid hgo
    clear hgo hml
    go_wp2_with fail
    go_ret
    exact ⟨by rw [HGO.out]; rfl, HB.out⟩
   ·obtain ⟨gb, hgb⟩ : ∃ g, g = goodB s lm := ⟨_, rfl⟩
    rw [<- hgb] at C
    have HGB := hid hgb
    clear hgb hml
    cases gb
    ·have hgo := HO.out (by rw [HG.out]; exact HGB.out.symm)
     have HGO := hid hgo
     clear hgo
     go_wp2_with (go_at_call 13; (with_reducible refine C.out.mono ?_); rintro e W1 ⟨rfl, b1⟩; have HB1 := hid (Bt HB.out b1); clear b1)
     go_ret
     exact ⟨by rw [HGO.out]; rfl, HB1.out⟩
    ·go_wp2_with (go_at_call 13; (with_reducible refine C.out.mono ?_); rintro e W1 ⟨rfl, b1⟩; have HB1 := hid (Bt HB.out b1); clear b1)
     refine ⟨⟨q + 1, by omega, by go_num, ?_, HB1.out⟩, by simp [intOf] <;> omega⟩
     rw [HT.out, HA.out, HG.out, <- HGB.out]; rfl
  ·obtain rfl : q = n := by omega
   rw [List.take_of_length_le (by omega)] at HA
   go_wp2_with fail
   go_ret
   exact ⟨by rw [HA.out]; rfl, HB.out⟩
theorem zrow_two {w : World} {g : Nat} {s s' : Bool} {a a' : Option Addr} {m c m' c' : Nat} {l l' : List Nat} {t : TypeId} (h : w.heap[g]? = some (.cells #[.bool s, .slice a m c, .bool s', .slice a' m' c'] t (0, 0))) (R : Row .u32 B32 w a m c l) (R' : Row .u32 B32 w a' m' c' l') : ZRow w (some ⟨g, 0, none⟩) 2 2 [(s, l), (s', l')] := by
 refine ⟨rfl, Nat.le_refl _, by unfold maxLen; omega, fun e => (by cases e), .inr ⟨g, 0, rfl, (Array.getElem?_eq_some_iff.1 h).1, fun i hi => ?_⟩⟩
 match i, hi with
 | 0, _ => exact ⟨blk_cell h 0, a, m, c, blk_cell h 1, R⟩
 | 1, _ => exact ⟨blk_cell h 2, a', m', c', blk_cell h 3, R'⟩
theorem cmpR_iff0 (s s' : Bool) (x y : Nat) : (cmpR s s' x y == 0) = true ↔ s = s' /\ x = y := by
 by_cases h : s = s'
 ·subst h
  rw [cmpR_eq]
  have h0 : cmpN x y = 0 ↔ x = y := by unfold cmpN; split <;>(try split) <;> simp <;> omega
  cases s <;> simp [h0] <;> omega
 ·rw [cmpR_ne _ _ h]
  cases s <;> simp [h]
set_option maxHeartbeats 4000000 in
theorem zsame_any (x y : Value) (a b : Int) (w : World) (hx : IsInt w x a) (hy : IsInt w y b) :
  Calls Tryz.prog 11 #[x, y] w fun e w' => e = .returned (.bool (decide (a = b))) /\ Below w.heap.size w w' := by
 obtain ⟨s, ao, n, cap, l, rfl, R, g, rfl⟩ := hx.open_
 obtain ⟨s', ao', n', cap', l', rfl, R', g', rfl⟩ := hy.open_
 have hn := R.len
 have hn' := R'.len
 have hg := goodB_len g
 have hg' := goodB_len g'
 have b0 := Baa w (.cells #[.bool s, .slice ao n cap] 24) (.cells #[.bool s', .slice ao' n' cap'] 24)
 have x1 := (Box.new 24 w s ao n cap).alloc (.cells #[.bool s', .slice ao' n' cap'] 24)
 have x2 := Box.new 24 (w.alloc (.cells #[.bool s, .slice ao n cap] 24)) s' ao' n' cap'
 rw [size_alloc] at x2
 obtain ⟨W0, hW0⟩ : ∃ W, W = (w.alloc (.cells #[.bool s, .slice ao n cap] 24)).alloc (.cells #[.bool s', .slice ao' n' cap'] 24) := ⟨_, rfl⟩
 rw [<- hW0] at b0 x1 x2
 have b1 := Ba W0 (.cells #[.bool s, .slice ao n cap, .bool s', .slice ao' n' cap'] 24)
 have hz := zrow_two (blk_new W0 #[.bool s, .slice ao n cap, .bool s', .slice ao' n' cap'] 24) ((R.below b0).below b1) ((R'.below b0).below b1)
 have hs0 : W0.heap.size = w.heap.size + 1 + 1 := by rw [hW0, size_alloc, size_alloc]
 rw [hs0] at hz
 have C1 := zgood_any _ 2 2 _ _ hz (by omega)
 have hall : [(s, l), (s', l')].all goodZ = true := by simp [goodZ, g, g']
 rw [hall] at C1
 have HC1 := hid C1
 have CS : Hid (∀ W, Below w.heap.size w W -> Calls Tryz.prog 23 #[.agg #[.bool s, .slice ao n cap], .agg #[.bool s', .slice ao' n' cap']] W fun e w' => e = .returned (.bool (cmpR s s' (val B32 l) (val B32 l') == 0)) /\ Below W.heap.size W w') := fun W h => rsame_any s s' ao ao' n cap n' cap' l l' W (R.below h) (R'.below h) (by omega) (by omega)
 have hcm := cmpR_iff0 s s' (val B32 l) (val B32 l')
 rw [<- sgn_inj g g'] at hcm
 obtain ⟨cb, hcb⟩ : ∃ c, c = (cmpR s s' (val B32 l) (val B32 l') == 0) := ⟨_, rfl⟩
 have hss : cb = true -> s = s' := fun e => ((cmpR_iff0 s s' (val B32 l) (val B32 l')).1 (by rw [<- hcb]; exact e)).1
 rw [<- hcb] at CS hcm
 have hdec : decide (sgn s (val B32 l) = sgn s' (val B32 l')) = cb := by
  cases cb
  ·exact decide_eq_false (fun e => by have := hcm.2 e; cases this)
  ·exact decide_eq_true (hcm.1 rfl)
 rw [hdec]
 obtain ⟨c0, c1⟩ := x1.c
 obtain ⟨c2, c3⟩ := x2.c
 have HX1 := hid x1
 have HX2 := hid x2
 have HB1 := hid b1
 have HB0 := hid b0
 rw [hW0] at c0 c1 c2 c3 HC1
 clear R R' g g' hn hn' hg hg' b0 b1 x1 x2 hz C1 hs0 hall hcm hcb hdec hx hy
 cases cb
 ·go_enter Tryz.func11, Tryz.ntmps11
  go_wp2_with (first
   | (go_at_call 4; (with_reducible refine HC1.out.mono ?_); rintro e W1 ⟨rfl, b2⟩; rw [<- hW0] at b2; have b3 := Bt HB1.out b2; clear c0 c1 c2 c3; obtain ⟨c0, c1⟩ := (HX1.out.on b3).c; obtain ⟨c2, c3⟩ := (HX2.out.on b3).c; have HB3 := hid (Bt HB0.out b3); have C2 := hid (CS.out W1 (Bt HB0.out b3)); clear b2 b3)
   | (go_at_call 23; (with_reducible refine C2.out.mono ?_); rintro e W2 ⟨rfl, b4⟩; have HB4 := hid (Bt HB3.out b4); clear b4))
  go_ret
  exact ⟨rfl, HB4.out⟩
 ·obtain rfl := hss rfl
  go_enter Tryz.func11, Tryz.ntmps11
  go_wp2_with (first
   | (go_at_call 4; (with_reducible refine HC1.out.mono ?_); rintro e W1 ⟨rfl, b2⟩; rw [<- hW0] at b2; have b3 := Bt HB1.out b2; clear c0 c1 c2 c3; obtain ⟨c0, c1⟩ := (HX1.out.on b3).c; obtain ⟨c2, c3⟩ := (HX2.out.on b3).c; have HX3 := hid (HX1.out.on b3); have HX4 := hid (HX2.out.on b3); have HB3 := hid (Bt HB0.out b3); have C2 := hid (CS.out W1 (Bt HB0.out b3)); clear b2 b3)
   | (go_at_call 23; (with_reducible refine C2.out.mono ?_); rintro e W2 ⟨rfl, b4⟩; clear c0 c1 c2 c3; obtain ⟨c0, c1⟩ := (HX3.out.on b4).c; obtain ⟨c2, c3⟩ := (HX4.out.on b4).c; have HB4 := hid (Bt HB3.out b4); clear b4))
  go_ret
  exact ⟨by simp, HB4.out⟩
def aw59 : Int := wordR 1 576460752303423488 0
theorem fix59 : fixB 576460752303423488 = true := by decide
theorem big60 : fixB 1152921504606846976 = false := by decide
theorem lay59 (N : Int) : layM [] N 576460752303423488 = (aw59, 0) := by unfold layM; rw [fix59]; rfl
theorem layo59 (N : Int) : layO [] N 576460752303423488 = [] := by unfold layO; rw [fix59]; rfl
theorem num59 : numM [] aw59 = some 576460752303423488 := by
 have h := numM_lay (os := []) (N := 20) (z := 576460752303423488) (by omega) (by rw [lay59])
 rw [lay59, layo59] at h
 exact h
theorem u59 : U64 aw59 := wordR_rng _ _ _
theorem mg60 : mg 1152921504606846976 = [0, 268435456] := by
 refine (mg_is (l := [0, 268435456]) ?_ ?_ ?_).symm
 ·intro x hx
  simp only [List.mem_cons, List.not_mem_nil, or_false] at hx
  rcases hx with rfl | rfl <;> decide
 ·exact .inr (by simp)
 ·decide
theorem need60 : needZ 1152921504606846976 = 4 := by
 unfold needZ
 rw [big60, show (1152921504606846976 : Int).natAbs = 1152921504606846976 from rfl, mg60]; rfl
theorem res59 : resZ [] 1 aw59 aw59 = (1152921504606846976, 0) := by
 have hb : bothZ [] aw59 aw59 = (576460752303423488, 576460752303423488, 0) := by unfold bothZ; rw [num59]; rfl
 unfold resZ
 rw [hb, if_neg (by omega), if_pos rfl]
 unfold reckM
 rw [if_pos rfl, bigZ_small (not_big_64 _ (by decide))]; rfl
theorem do59 : doM [] 20 1 aw59 aw59 = (1, 0) := by
 unfold doM
 rw [res59, if_pos rfl, layM_is, big60, need60]; rfl
theorem doo59 : doO [] 20 1 aw59 aw59 = [bigO 1152921504606846976] := by
 unfold doO
 rw [res59, if_pos rfl, layO_is, big60, need60]; rfl
theorem used59 : (wordsL [bigO 1152921504606846976]).length = 4 := by
 rw [wordsL_length]
 show 1 + (bigL _ _).length + 0 = 4
 rw [bigL_len, show (1152921504606846976 : Int).natAbs = 1152921504606846976 from rfl, mg60]; rfl
theorem all_nil : AllBig [] := fun x h => by cases h
theorem reck6 : reckM 6 (-7) 2 = (1, 0) := by decide
theorem reck5 : reckM 5 (-7) 2 = (-1, 0) := by decide
theorem reck4 : reckM 4 1 0 = (0, 11) := by decide
end Go.Proofs.YtdekkieajffblaaGreatDoor
