import Derived.Test.YtdekkieajffblaaGreatDoorAB2
import Derived.Test.YtdekkieajffblaaGreatDoorV9b
import Derived.Test.YtdekkieajffblaaGreatDoorSG2
set_option linter.unusedVariables false
set_option linter.unusedSimpArgs false
set_option maxRecDepth 100000
namespace Go.Proofs.YtdekkieajffblaaGreatDoor
open Go.RowKit
section
variable {B : Nat} {v : Value} {N : Int} {os : List Ob} {ws : List Int} {F : Nat -> Prop} {w w1 w' : World}
theorem bget_at {p : Int} {k : Nat} (hf : findM os p = some k) {i : Nat} (hi : i < (os.getD k default).f.length) : getM os p 0 (i : Nat) = ((os.getD k default).f.getD i 0, 0) := by
 have e : fieldM os p 0 (i : Nat) = ((k : Int), 0) := by
  unfold fieldM
  rw [hf]
  simp only
  rw [if_neg (by simp), if_neg (by omega)]
 unfold getM
 rw [e, if_pos rfl]
 simp
theorem bget_out {p : Int} {k : Nat} (hf : findM os p = some k) {i : Nat} (hi : (os.getD k default).f.length <= i) : getM os p 0 (i : Nat) = (0, 2) := by
 have e : fieldM os p 0 (i : Nat) = (0, 2) := by
  unfold fieldM
  rw [hf]
  simp only
  rw [if_neg (by simp), if_pos (by omega)]
 unfold getM
 rw [e, if_neg (by decide)]
theorem nohead8 {z : Int} (h : isHd z = false) : isR 8 z = false := h
theorem utake {f : List Int} {q : Nat} (h : q < f.length) : f.take (q + 1) = f.take q ++ [f.getD q 0] := by
 rw [List.take_succ_eq_append_getElem h, List.getD_eq_getElem?_getD, List.getElem?_eq_getElem h]; rfl
set_option maxHeartbeats 4000000 in
theorem bfirst_any (ho : OsOk os) (p : Int) (hp : U64 p) {k : Nat} (hf : findM os p = some k) (hl : (os.getD k default).f.length <= 41) (w : World) (h : PH B v N (wordsL os) F w) :
  Calls Tryz.prog 85 #[v, .int .u64 p] w fun e w' => ∃ vf, e = .returned vf /\ w'.ownsRow w.heap.size 32 1 vf (os.getD k default).f.length (uz (os.getD k default).f) /\ Below w.heap.size w w' := by
 have hk := (findM_lt hf).1
 have hmem : os.getD k default ∈ os := by rw [List.getD_eq_getElem?_getD, List.getElem?_eq_getElem hk]; exact List.getElem_mem _
 have hnh := ho.nh _ hmem
 have huf := ho.uf _ hmem
 have K1 : Hid (∀ (j : Nat) W, j < (os.getD k default).f.length -> Below w.heap.size w W -> Calls Tryz.prog 104 #[v, .int .u64 p, .int .i64 0, .int .i64 j] W fun e w' => e = .returned (.tuple #[.int .u64 ((os.getD k default).f.getD j 0), .int .i64 0]) /\ Below W.heap.size W w') := fun j W hj hW => by
  have := pget_any ho p 0 j hp (by unfold Z64; omega) (by unfold Z64; omega) W (h.onb hW)
  rw [bget_at hf hj] at this
  exact this
 have K2 : Hid (∀ (j : Nat) W, j = (os.getD k default).f.length -> Below w.heap.size w W -> Calls Tryz.prog 104 #[v, .int .u64 p, .int .i64 0, .int .i64 j] W fun e w' => e = .returned (.tuple #[.int .u64 0, .int .i64 2]) /\ Below W.heap.size W w') := fun j W hj hW => by
  have := pget_any ho p 0 j hp (by unfold Z64; omega) (by unfold Z64; omega) W (h.onb hW)
  rw [bget_out hf (by omega)] at this
  exact this
 obtain ⟨gh, rfl⟩ := h.ptr
 obtain ⟨f, hfe⟩ : ∃ f, f = (os.getD k default).f := ⟨_, rfl⟩
 rw [<- hfe] at K1 K2 hl hnh huf ⊢
 have HNH := hid hnh
 have HUF := hid huf
 clear hnh huf hmem hk hf h ho hfe hp
 go_enter Tryz.func85, Tryz.ntmps85
 go_wp2_with fail
 go_loopw [5, 6, 7, 8, 9, 10, 11, 12] (fun vf _ _ _ _ _ _ i wr => ∃ q : Nat, q <= f.length /\ i = .int .i64 q /\ Hid (wr.ownsRow w.heap.size 32 1 vf q (uz (f.take q)) /\ Below w.heap.size w wr)) (fun _ _ _ _ _ _ _ i _ => 42 - (intOf i).toNat)
 case atStart => exact ⟨0, Nat.zero_le _, rfl, World.ownsRow_nil _ _ _ _, Below.refl _ _⟩
 case round =>
  obtain ⟨q, hq, rfl, hI⟩ := hrel
  have HOQ := hid hI.out.1
  have HBQ := hid hI.out.2
  clear hI
  by_cases hlt : q < f.length
  ·have C1 := hid (K1.out q wr hlt HBQ.out)
   have hm := getD_in_f hlt
   have hzu := HUF.out _ hm
   have hz8 := nohead8 (HNH.out _ hm)
   have HT := hid (utake hlt)
   obtain ⟨x, hx⟩ : ∃ x, x = f.getD q 0 := ⟨_, rfl⟩
   rw [<- hx] at C1 HT hzu hz8
   have CH : Hid (∀ W, Calls Tryz.prog 80 #[.int .u64 x] W fun e w' => ∃ t n, e = .returned (.tuple #[.int .i64 t, .int .i64 n, .bool false]) /\ w' = W) := fun W => by
    refine (headof_any x hzu W).mono ?_
    rintro e w' ⟨rfl, h2⟩
    exact ⟨_, _, by rw [hz8], h2⟩
   have HZU := hid hzu
   clear hx hm hzu hz8
   go_wp2_with (first
    | (go_at_call 104; (with_reducible refine C1.out.mono ?_); rintro e W1 ⟨rfl, b1⟩; have HO1 := hid (uown_on (uown_on HOQ.out b1) (Ba W1 (.cells #[.int .u64 x] 32))); have HU1 := hid (urow_one (blk_new W1 #[.int .u64 x] 32) HZU.out); have HBA := hid (HBQ.out.trans ((Bt b1 (Ba W1 (.cells #[.int .u64 x] 32))).mono HBQ.out.size)); have HSA := hid HBA.out.size; have C2 := hid (CH.out W1); clear b1)
    | (go_at_call 80; (with_reducible refine C2.out.mono ?_); rintro e W2 ⟨t2, n2, rfl, hw2⟩; rw [hw2]; clear hw2)
    | (at_builtin; refine appU rfl _ _ 51 rfl w.heap.size 32 Tryz.underlying51 info_word _ q (f.take q) rfl HO1.out (some ⟨W1.heap.size, 0, none⟩) 1 1 [x] rfl HU1.out (by omega) HSA.out ?_; intro v2 w2 ho2 hg2))
   have HE : Hid (Below w.heap.size w w2) := HBA.out.grown hg2 HSA.out (fun b hb => (HO1.out.lt b hb).1)
   refine ⟨⟨q + 1, by omega, by go_num, ?_, HE.out⟩, by simp [intOf] <;> omega⟩
   rw [HT.out]; exact ho2
  ·obtain rfl : q = f.length := by omega
   rw [List.take_of_length_le (Nat.le_refl _)] at HOQ
   have C1 := hid (K2.out _ wr rfl HBQ.out)
   have CH : Hid (∀ W, Calls Tryz.prog 80 #[.int .u64 0] W fun e w' => ∃ t n, e = .returned (.tuple #[.int .i64 t, .int .i64 n, .bool false]) /\ w' = W) := fun W => by
    refine (headof_any 0 (by unfold U64; omega) W).mono ?_
    rintro e w' ⟨rfl, h2⟩
    exact ⟨_, _, by rw [isR_zero], h2⟩
   go_wp2_with (first
    | (go_at_call 104; (with_reducible refine C1.out.mono ?_); rintro e W1 ⟨rfl, b1⟩; have HO1 := hid (uown_on HOQ.out b1); have HBA := hid (HBQ.out.trans (b1.mono HBQ.out.size)); have C2 := hid (CH.out W1); clear b1)
    | (go_at_call 80; (with_reducible refine C2.out.mono ?_); rintro e W2 ⟨t2, n2, rfl, hw2⟩; rw [hw2]; clear hw2))
   go_ret
   exact ⟨_, rfl, HO1.out, HBA.out⟩
end
section
variable {B : Nat} {v : Value} {N : Int} {os : List Ob} {ws : List Int} {F : Nat -> Prop} {w w1 w' : World}
def objZ (os : List Ob) (p : Int) : Option Int := (findM os p).map (fun k => intL (os.getD k default).f)
theorem bigO_len {z : Int} (hb : ¬ Big z.natAbs) : (bigO z).f.length <= 41 := by
 show (bigL _ _).length <= 41
 rw [bigL_len]
 have := mg_len40 hb
 omega
theorem bint_good {f : List Int} (h : bintB f = true) : goodB (numNeg f) (numMag f) = true := by
 unfold bintB at h
 simp only [Bool.and_eq_true] at h
 exact h.2.2.2
set_option maxHeartbeats 4000000 in
theorem bread_any (ho : OsOk os) (ha : AllBig os) (p : Int) (hp : U64 p) (w : World) (h : PH B v N (wordsL os) F w) :
  Calls Tryz.prog 62 #[v, .int .u64 p] w fun e w' => ∃ x, e = .returned (.tuple #[x, .bool (objZ os p).isSome]) /\ IsInt w' x ((objZ os p).getD 0) /\ Below w.heap.size w w' := by
 have b0 := Ba w (.cells #[.bool false, .slice none 0 0] 24)
 have hx0 := Box.new 24 w false none 0 0
 have CK := hid (pkind_any ho p hp _ (h.onb b0))
 obtain ⟨W0, hW0⟩ : ∃ W, W = w.alloc (.cells #[.bool false, .slice none 0 0] 24) := ⟨_, rfl⟩
 have hs0 : W0.heap.size = w.heap.size + 1 := by rw [hW0, size_alloc]
 rw [<- hW0] at b0 hx0
 have HX0 := hid hx0
 have HB0 := hid b0
 have fin : Hid (∀ W (s : Bool) (a : Option Addr) (m c : Nat), Below W0.heap.size W0 W -> Box 24 W w.heap.size false none 0 0 /\ Box 24 ((W.setCell ⟨w.heap.size, 0, none⟩ (.bool s)).setCell ⟨w.heap.size, 1, none⟩ (.slice a m c)) w.heap.size s a m c /\ Below w.heap.size w ((W.setCell ⟨w.heap.size, 0, none⟩ (.bool s)).setCell ⟨w.heap.size, 1, none⟩ (.slice a m c))) := fun W s a m c hb =>
  ⟨HX0.out.on hb, (HX0.out.on hb).set2 s a m c, store2_below (Bt HB0.out hb) (Nat.le_refl _)⟩
 cases hf : findM os p with
 | none =>
  have hoz : objZ os p = none := by unfold objZ; rw [hf]; rfl
  have hkm : kindM os p = (0, 70) := by unfold kindM; rw [hf]
  rw [hkm] at CK
  rw [hoz]
  have HZ := hid (fun W : World => zero_is W)
  obtain ⟨gh, rfl⟩ := h.ptr
  clear hf hoz hkm ho ha h hp b0 hx0
  go_enter Tryz.func62, Tryz.ntmps62
  go_wp2_with (go_at_call 65; (with_reducible refine CK.out.mono ?_); rintro e W1 ⟨rfl, b1⟩; rw [<- hW0] at b1; obtain ⟨q0, q1, q2⟩ := fin.out W1 false none 0 0 b1; obtain ⟨c0, c1⟩ := q0.c; obtain ⟨f0, f1⟩ := q0.f; obtain ⟨t0, t1⟩ := q1.c; have HQ2 := hid q2; clear b1 q0 q1 q2)
  (try simp only [Exit.inBlock, Exit.then]); refine bodyPost_ret (v := .tuple #[.agg #[.bool false, .slice none 0 0], .bool false]) (by simp [results, Tryz.results62, go_sem, t0, t1]) rfl ?_
  exact ⟨_, rfl, HZ.out _, HQ2.out⟩
 | some k =>
  have hoz : objZ os p = some (intL (os.getD k default).f) := by unfold objZ; rw [hf]; rfl
  have hk := (findM_lt hf).1
  obtain ⟨y, h1, h2, h3⟩ := ha (os.getD k default) (by rw [List.getD_eq_getElem?_getD, List.getElem?_eq_getElem hk]; exact List.getElem_mem _)
  have hkm : kindM os p = (5, 0) := by unfold kindM; rw [hf]; simp only; rw [h1]; rfl
  have hlen : (os.getD k default).f.length <= 41 := by rw [h1]; exact bigO_len h3
  have huf := ho.uf (os.getD k default) (by rw [List.getD_eq_getElem?_getD, List.getElem?_eq_getElem hk]; exact List.getElem_mem _)
  have hfe : (os.getD k default).f = bigL (decide (y < 0)) (mg y.natAbs) := by rw [h1]; rfl
  have hbig : bigB (os.getD k default).f = true := by rw [hfe]; exact big_is h2 h3
  have hiy : intL (os.getD k default).f = y := by rw [hfe]; exact big_intL y
  rw [hkm] at CK
  rw [hoz, hiy]
  have CF : Hid (∀ W, Below w.heap.size w W -> Calls Tryz.prog 85 #[v, .int .u64 p] W fun e w' => ∃ af nf cf, e = .returned (.slice af nf cf) /\ nf <= 41 /\ URow w' af nf cf (os.getD k default).f /\ Below W.heap.size W w') := fun W b => by
   refine (bfirst_any ho p hp hf hlen W (h.onb b)).mono ?_
   rintro e w' ⟨vf, rfl, e1, e2⟩
   obtain ⟨af, cf, rfl, hu⟩ := urow_own e1 huf
   exact ⟨af, _, cf, rfl, hlen, hu, e2⟩
  obtain ⟨f, hfe2⟩ : ∃ f, f = (os.getD k default).f := ⟨_, rfl⟩
  rw [<- hfe2] at CF hbig hiy
  rw [bbigB_is, Bool.and_eq_true] at hbig
  have hgood := bint_good hbig.1
  have hfx : fixB y = false := h2
  have CI : Hid (∀ W (af : Option Addr) (nf cf : Nat), nf <= 41 -> URow W af nf cf f -> Calls Tryz.prog 84 #[.slice af nf cf] W fun e w' => ∃ neg ao n cap, e = .returned (.tuple #[.agg #[.bool neg, .slice ao n cap], .bool true]) /\ neg = numNeg f /\ n <= 40 /\ Row .u32 B32 w' ao n cap (numMag f) /\ Below W.heap.size W w') := fun W af nf cf hn U => by
   refine (binteger_any af nf cf f W U (by omega)).mono ?_
   rintro e w' ⟨neg, ao, n, cap, rfl, e1, e2⟩
   obtain ⟨a1, a2, a3⟩ := e1 hbig.1
   exact ⟨neg, ao, n, cap, by rw [hbig.1], a1, a2, a3, e2⟩
  have CW : Hid (∀ W (ao : Option Addr) (n cap : Nat), Row .u32 B32 W ao n cap (numMag f) -> Calls Tryz.prog 33 #[.agg #[.bool (numNeg f), .slice ao n cap]] W fun e w' => ∃ x, e = .returned (.tuple #[.int .u64 x, .bool false]) /\ Below W.heap.size W w') := fun W ao n cap R => by
   refine (bword_any (numNeg f) ao n cap (numMag f) W R hgood).mono ?_
   rintro e w' ⟨x, rfl, _, e2⟩
   have e3 : sgn (numNeg f) (val B32 (numMag f)) = y := hiy
   exact ⟨x, by rw [e3, hfx], e2⟩
  have HEND : Hid (∀ W (ao : Option Addr) (n cap : Nat), Row .u32 B32 W ao n cap (numMag f) -> IsInt W (.agg #[.bool (numNeg f), .slice ao n cap]) y) := fun W ao n cap R => ⟨numNeg f, numMag f, ⟨ao, n, cap, rfl, R⟩, hgood, hiy.symm⟩
  obtain ⟨ng, hng⟩ : ∃ b, b = numNeg f := ⟨_, rfl⟩
  obtain ⟨ml, hml⟩ : ∃ b, b = numMag f := ⟨_, rfl⟩
  rw [<- hng, <- hml] at CI CW HEND
  obtain ⟨gh, rfl⟩ := h.ptr
  clear hf hoz hkm ho ha h hp b0 hx0 h1 h2 h3 hlen huf hfe hbig hiy hgood hfx hng hml hfe2 hk
  go_enter Tryz.func62, Tryz.ntmps62
  go_wp2_with (first
   | (go_at_call 65; (with_reducible refine CK.out.mono ?_); rintro e W1 ⟨rfl, b1⟩; rw [<- hW0] at b1; have HB1 := hid b1; have C2 := hid (CF.out W1 (Bt HB0.out b1)); clear b1)
   | (go_at_call 85; (with_reducible refine C2.out.mono ?_); rintro e W2 ⟨af, nf, cf, rfl, hn, hU, b2⟩; have HB2 := hid (HB1.out.trans (b2.mono HB1.out.size)); have C3 := hid (CI.out W2 af nf cf hn hU); clear b2 hU hn)
   | (go_at_call 84; (with_reducible refine C3.out.mono ?_); rintro e W3 ⟨ng', aM, m, cM, rfl, rfl, hm40, hrow, b3⟩; have hb := Ba W3 (.cells #[.bool ng', .slice aM m cM] 24); have HR1 := hid (hrow.below hb); have HB3 := hid (HB2.out.trans ((Bt b3 hb).mono HB2.out.size)); have hx := Box.new 24 W3 ng' aM m cM; have HX := hid hx; obtain ⟨c0, c1⟩ := hx.c; have C4 := hid (CW.out _ aM m cM HR1.out); clear b3 hrow hb hx)
   | (go_at_call 33; (with_reducible refine C4.out.mono ?_); rintro e W4 ⟨x4, rfl, b4⟩; have HB4 := hid (HB3.out.trans (b4.mono HB3.out.size)); have HR4 := hid (HR1.out.below b4); obtain ⟨d0, d1⟩ := (HX.out.on b4).c; obtain ⟨q0, q1, q2⟩ := fin.out W4 ng' aM m cM HB4.out; obtain ⟨r0, r1⟩ := q0.c; obtain ⟨f0, f1⟩ := q0.f; obtain ⟨t0, t1⟩ := q1.c; have HQ0 := hid q0; have HQ2 := hid q2; clear b4 q0 q1 q2 c0 c1))
  (try simp only [Exit.inBlock, Exit.then]); refine bodyPost_ret (v := .tuple #[.agg #[.bool ng', .slice aM m cM], .bool true]) (by simp [results, Tryz.results62, go_sem, t0, t1]) rfl ?_
  exact ⟨_, rfl, HEND.out _ _ _ _ (HR4.out.setBox2 HQ0.out _ _), HQ2.out⟩
end
end Go.Proofs.YtdekkieajffblaaGreatDoor
