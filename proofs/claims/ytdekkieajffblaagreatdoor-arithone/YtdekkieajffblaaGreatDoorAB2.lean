import Derived.Test.YtdekkieajffblaaGreatDoorSL29
import Derived.Test.YtdekkieajffblaaGreatDoorAM1
import Derived.Test.YtdekkieajffblaaGreatDoorQ3
import Derived.Test.YtdekkieajffblaaGreatDoorSG2
import Derived.Test.YtdekkieajffblaaGreatDoorG5
set_option linter.unusedVariables false
set_option linter.unusedSimpArgs false
set_option maxRecDepth 100000
namespace Go.Proofs.YtdekkieajffblaaGreatDoor
open Go.RowKit
theorem os_nil : OsOk [] := ⟨fun x hx => (by cases hx), fun x hx => (by cases hx), fun x hx => (by cases hx)⟩
theorem PPost.below {B : Nat} {v : Value} {N : Int} {ws ws' : List Int} {F : Nat -> Prop} {w w' : World} (h : PH B v N ws F w) (hp : PPost B v N F w ws' w') (hB : B <= w.heap.size) : Below B w w' := by
 obtain ⟨F', p1, p2, p3⟩ := hp
 exact p3.below (fun b hb => (h.ge b hb).1) hB
section
variable {B : Nat} {v : Value} {N : Int} {os : List Ob} {ws : List Int} {F : Nat -> Prop} {w w1 w' : World}
theorem PH.onb (h : PH B v N ws F w) (hb : Below w.heap.size w w') : PH B v N ws F w' := h.keep (fun b hF => hb.block b (h.ge b hF).2)
theorem PPost.front {ws' : List Int} (hb : Below w.heap.size w w1) (h : PPost B v N F w1 ws' w') : PPost B v N F w ws' w' := by
 obtain ⟨F', h1, h2, h3⟩ := h
 have hs := hb.size
 exact ⟨F', h1, fun b e => (h2 b e).imp id (fun e => by omega), (Mod.of_below F hb).trans h3 (fun _ _ e => e)⟩
theorem PPost.still (h : PH B v N ws F w) (hb : Below w.heap.size w w') : PPost B v N F w ws w' := ⟨F, h.onb hb, fun _ e => .inl e, Mod.of_below F hb⟩
theorem neg_good {neg : Bool} {l : List Nat} (g : goodB neg l = true) : neg = decide (sgn neg (val B32 l) < 0) := by
 cases neg
 ·symm; refine decide_eq_false ?_; simp [sgn]
 ·have h1 : val B32 l ≠ 0 := (goodB_tr g).ne_zero (by decide) (fun e => by have := goodB_neg g (by simp [e]); cases this)
  symm; refine decide_eq_true ?_; simp [sgn]; omega
set_option maxHeartbeats 4000000 in
theorem blay_any (ho : OsOk os) (x : Value) (z : Int) (w : World) (h : PH B v N (wordsL os) F w) (hx : IsInt w x z) (hB : B <= w.heap.size) :
  Calls Tryz.prog 18 #[v, x] w fun e w' => e = .returned (.tuple #[.int .u64 (layM os N z).1, .int .i64 (layM os N z).2]) /\ PPost B v N F w (wordsL (layO os N z)) w' := by
 obtain ⟨neg, ao, n, cap, l, rfl, R, g, hz⟩ := hx.open_
 have hn40 : n <= 40 := by rw [<- R.len]; exact goodB_len g
 have hm := mg_of R.dg g
 have hng := neg_good g
 rw [<- hz] at hm hng
 have b0 := Ba w (.cells #[.bool neg, .slice ao n cap] 24)
 have hxb := blk_new w #[.bool neg, .slice ao n cap] 24
 have HC : Hid (∀ W, Below (w.alloc (.cells #[.bool neg, .slice ao n cap] 24)).heap.size (w.alloc (.cells #[.bool neg, .slice ao n cap] 24)) W -> W.cell? ⟨w.heap.size, 0, none⟩ = some (.bool neg) /\ W.cell? ⟨w.heap.size, 1, none⟩ = some (.slice ao n cap) /\ Below w.heap.size w W) := fun W b => by
  have e := (b.block w.heap.size (by rw [size_alloc]; omega)).trans hxb
  exact ⟨blk_cell e 0, blk_cell e 1, Bt b0 b⟩
 have CG : Hid (∀ W, Below w.heap.size w W -> Calls Tryz.prog 32 #[.agg #[.bool neg, .slice ao n cap]] W fun e w' => e = .returned (.bool true) /\ Below W.heap.size W w') := fun W b => by
  have := good_any neg ao n cap l W (R.below b)
  rw [g] at this; exact this
 have CW : Hid (∀ W, Below w.heap.size w W -> Calls Tryz.prog 33 #[.agg #[.bool neg, .slice ao n cap]] W fun e w' => ∃ x, e = .returned (.tuple #[.int .u64 x, .bool (fixB z)]) /\ (fixB z = true -> x = wordR 1 z 0) /\ Below W.heap.size W w') := fun W b => by
  have := bword_any neg ao n cap l W (R.below b) g
  rw [<- hz] at this; exact this
 have CF : Hid (∀ W, Below w.heap.size w W -> Calls Tryz.prog 35 #[.agg #[.bool neg, .slice ao n cap]] W fun e w' => ∃ af nf cf, e = .returned (.slice af nf cf) /\ URow w' af nf cf (bigL (decide (z < 0)) (mg z.natAbs)) /\ (∀ a, af = some a -> w.heap.size <= a.block) /\ Below W.heap.size W w') := fun W b => by
  refine (bfields_any neg ao n cap l W (R.below b) (by omega)).mono ?_
  rintro e w' ⟨vf, rfl, h1, h2⟩
  have hl : n + 1 = (bigL neg l).length := by rw [bigL_len, R.len]
  rw [hl] at h1
  have hge : ∀ b', vf.ownBlock = some b' -> W.heap.size <= b' := fun b' e => (h1.lt b' e).1
  obtain ⟨af, cf, rfl, hu⟩ := urow_own h1 (bigL_u _ _)
  rw [hng, hm] at hu
  refine ⟨af, _, cf, rfl, by rw [hng, hm]; exact hu, fun a e => ?_, h2⟩
  have := hge a.block (by subst e; rfl)
  have := b.size
  omega
 have CA : Hid (∀ W (af : Option Addr) (nf cf : Nat), Below w.heap.size w W -> URow W af nf cf (bigL (decide (z < 0)) (mg z.natAbs)) -> (∀ a, af = some a -> w.heap.size <= a.block) -> Calls Tryz.prog 34 #[v, .int .i64 5, .slice af nf cf] W fun e w' => e = .returned (.tuple #[.int .u64 (allocM os N 5 (bigL (decide (z < 0)) (mg z.natAbs))).1, .int .i64 (allocM os N 5 (bigL (decide (z < 0)) (mg z.natAbs))).2]) /\ PPost B v N F w (wordsL (allocO os N 5 (bigL (decide (z < 0)) (mg z.natAbs)))) w') := fun W af nf cf b U hge => by
  have hlen := U.len
  rw [bigL_len, <- hm, R.len] at hlen
  refine (palloc_any ho 5 (by unfold Z64; omega) af nf cf _ W (h.onb b) U (by have := b.size; omega) (fun a e hF => by have := (h.ge a.block hF).2; have := hge a e; omega) (by omega)).mono ?_
  rintro e w' ⟨rfl, hp⟩
  exact ⟨rfl, PPost.front b hp⟩
 have HS : Hid (∀ w', Below w.heap.size w w' -> PPost B v N F w (wordsL os) w') := fun w' b => PPost.still h b
 have hLM : layM os N z = if fixB z = true then (wordR 1 z 0, 0) else allocM os N 5 (bigL (decide (z < 0)) (mg z.natAbs)) := rfl
 have hLO : layO os N z = if fixB z = true then os else allocO os N 5 (bigL (decide (z < 0)) (mg z.natAbs)) := rfl
 obtain ⟨gh, rfl⟩ := h.ptr
 obtain ⟨c0, c1, _⟩ := HC.out _ (Below.refl _ _)
 have C1 := hid (CG.out _ b0)
 obtain ⟨fb, hfb⟩ : ∃ b, b = fixB z := ⟨_, rfl⟩
 rw [<- hfb] at CW hLM hLO
 rw [hLM, hLO]
 obtain ⟨a1, ha1⟩ : ∃ y, y = (allocM os N 5 (bigL (decide (z < 0)) (mg z.natAbs))).1 := ⟨_, rfl⟩
 obtain ⟨a2, ha2⟩ : ∃ y, y = (allocM os N 5 (bigL (decide (z < 0)) (mg z.natAbs))).2 := ⟨_, rfl⟩
 rw [<- ha1, <- ha2] at CA
 have HA : Hid (allocM os N 5 (bigL (decide (z < 0)) (mg z.natAbs)) = (a1, a2)) := by rw [ha1, ha2]; rfl
 clear R g hxb b0 hfb hm hng hz h hx hn40 hLM hLO ha1 ha2 hB
 cases fb
 ·go_enter Tryz.func18, Tryz.ntmps18
  go_wp2_with (first
   | (go_at_call 32; (with_reducible refine C1.out.mono ?_); rintro e W1 ⟨rfl, b1⟩; obtain ⟨d0, d1, b2⟩ := HC.out W1 b1; have HB1 := hid b1; have C2 := hid (CW.out W1 b2); clear c0 c1 b1 b2)
   | (go_at_call 33; (with_reducible refine C2.out.mono ?_); rintro e W2 ⟨x2, rfl, _, b3⟩; have b4 := HB1.out.trans (b3.mono HB1.out.size); obtain ⟨f0, f1, b5⟩ := HC.out W2 b4; have HB2 := hid b4; have C3 := hid (CF.out W2 b5); clear b3 b4 b5 d0 d1)
   | (go_at_call 35; (with_reducible refine C3.out.mono ?_); rintro e W3 ⟨af, nf, cf, rfl, hU, hge, b6⟩; have b7 := HB2.out.trans (b6.mono HB2.out.size); obtain ⟨_, _, b8⟩ := HC.out W3 b7; have C4 := hid (CA.out W3 af nf cf b8 hU hge); clear b6 b7 b8 hU hge)
   | (go_at_call 34; (with_reducible refine C4.out.mono ?_); rintro e W4 ⟨rfl, hp⟩; have HP := hid hp; clear hp))
  go_ret2
  refine ⟨?_, HP.out⟩
  rw [HA.out]; rfl
 ·go_enter Tryz.func18, Tryz.ntmps18
  go_wp2_with (first
   | (go_at_call 32; (with_reducible refine C1.out.mono ?_); rintro e W1 ⟨rfl, b1⟩; obtain ⟨d0, d1, b2⟩ := HC.out W1 b1; have HB1 := hid b1; have C2 := hid (CW.out W1 b2); clear c0 c1 b1 b2)
   | (go_at_call 33; (with_reducible refine C2.out.mono ?_); rintro e W2 ⟨x2, rfl, hx2, b3⟩; have b4 := HB1.out.trans (b3.mono HB1.out.size); obtain ⟨_, _, b5⟩ := HC.out W2 b4; have HB2 := hid b5; have HX2 := hid (hx2 (by trivial)); clear b3 b4 b5 hx2 d0 d1))
  go_ret2
  refine ⟨?_, HS.out _ HB2.out⟩
  rw [HX2.out]; rfl
end
def bkz (k : IntKind) (l : List Int) : List Value := l.map (Value.int k)
theorem bkz_append (k : IntKind) (a b : List Int) : bkz k (a ++ b) = bkz k a ++ bkz k b := by simp [bkz]
theorem bappK {P : Program} {w : World} {ops : Array Oper} {rest : List Oper} {o : Oper} {a : Act} {Q : Exit -> Act -> World -> Prop} (k : IntKind) (by_ : Nat) (hby8 : by_ <= 8) (hgd : o.guard = none) (s x : Operand) (t : TypeId) (ho : o.op = .call { callee := .builtin .append, args := #[s, x], argTypes := #[t, t] })
  (base : Nat) (e : TypeId) (ht : P.underlying t = some (.slice e)) (hi : (P.info? e).map (fun i => (i.zero, i.size, i.bytes)) = some (some (.int k 0), 1, by_))
  (v : Value) (n : Nat) (l : List Int) (hs : a.eval s = v) (hown : w.ownsRow base e 1 v n (bkz k l))
  (ad : Addr) (c : Nat) (d : Int) (hx : a.eval x = .slice (some ad) 1 c) (hd : w.cell? ad = some (.int k d)) (hsm : n <= 10000000) (hbase : base <= w.heap.size)
  (h : ∀ g cap w', w'.ownsRow base e 1 (.slice (some ⟨g, 0, none⟩) (n + 1) cap) (n + 1) (bkz k (l ++ [d])) -> w.grownBy w' v.ownBlock -> (v.ownBlock = some g \/ g = w.heap.size) -> g < w'.heap.size -> wpList P ops Q rest (a.put o.dst (.slice (some ⟨g, 0, none⟩) (n + 1) cap)) w') :
  wpList P ops Q (o :: rest) a w := by
 obtain ⟨i0, hi0, hz0, hz1, hz2⟩ : ∃ i0, P.info? e = some i0 /\ i0.zero = some (.int k 0) /\ i0.size = 1 /\ i0.bytes = by_ := by
  cases h : P.info? e with
  | none => rw [h] at hi; cases hi
  | some i => rw [h] at hi; simp at hi; exact ⟨i, rfl, hi.1, hi.2.1, hi.2.2⟩
 refine wpList_append_lies w hgd s x t ho base e i0 (.int k 0) 1 by_ ht hi0 hz0 hz1 hz2 rfl (by decide) v n (bkz k l) hs hown ad 1 c [.int k d] hx rfl ?_ ?_ (by decide) (by unfold maxLen; omega) ?_ hbase w.heap.size rfl ?_
 ·intro j u hj
  match j, hj with
  | 0, hj => simp at hj; subst hj; simpa [Addr.add] using hd
 ·intro u hu; simp at hu; subst hu; rfl
 ·have : (n + 1) * by_ <= 10000001 * 8 := Nat.mul_le_mul (by omega) hby8
  omega
 ·intro g cap w' h1 h2 h3 h4
  refine h g cap w' ?_ h2 h3 h4
  rw [bkz_append]; exact h1
theorem bkz_get {k : IntKind} {l : List Int} {i : Nat} (h : i < l.length) : (bkz k l)[i]? = some (.int k (l.getD i 0)) := by
 unfold bkz
 rw [List.getElem?_map, List.getD_eq_getElem?_getD, List.getElem?_eq_getElem h]; rfl
theorem ball_take_one {p : Int -> Bool} {f : List Int} {q : Nat} (hq : q < f.length) : (f.take (q + 1)).all p = ((f.take q).all p && p (f.getD q 0)) := by
 rw [List.take_succ_eq_append_getElem hq, List.all_append, List.getD_eq_getElem?_getD, List.getElem?_eq_getElem hq]; simp
theorem ball_off {p : Int -> Bool} {f : List Int} {q : Nat} (hq : q < f.length) (h : p (f.getD q 0) = false) : f.all p = false := by
 rw [List.all_eq_false]
 exact ⟨f.getD q 0, getD_in_f hq, by rw [h]; decide⟩
theorem bnmap_take {f : List Int} {q : Nat} (hq : q < f.length) : (f.take (q + 1)).map nN = (f.take q).map nN ++ [nN (f.getD q 0)] := by
 rw [List.take_succ_eq_append_getElem hq, List.map_append, List.getD_eq_getElem?_getD, List.getElem?_eq_getElem hq]; rfl
theorem bbelow_drew (w : World) : Below w.heap.size w w.drew := ⟨rfl, rfl, rfl, Nat.le_refl _, fun _ _ => rfl⟩
def btailA (ao : Option Addr) (cap : Nat) : Option Addr := if cap = 1 then ao else ao.map (·.add 1)
theorem btail_row {w : World} {ao : Option Addr} {n cap : Nat} {f : List Int} (R : URow w ao n cap f) (hn : 0 < n) : URow w (btailA ao cap) (n - 1) (cap - 1) (f.drop 1) /\ (∀ a, btailA ao cap = some a -> ∃ a0, ao = some a0 /\ a0.block = a.block) := by
 obtain ⟨b, o, rfl, hlb, hc⟩ := R.some hn
 have hf := R.fits
 have hm := R.most
 have hl := R.len
 refine ⟨⟨by rw [List.length_drop]; omega, by omega, by omega, fun e => ?_, fun z hz => R.bd z (List.mem_of_mem_drop hz), ?_⟩, fun a e => ?_⟩
 ·unfold btailA at e
  split at e <;> cases e
 ·by_cases h1 : n = 1
  ·left
   exact List.eq_nil_of_length_eq_zero (by rw [List.length_drop]; omega)
  ·right
   refine ⟨b, o + 1, ?_, hlb, fun i hi => ?_⟩
   ·unfold btailA
    rw [if_neg (by omega)]; rfl
   ·rw [List.length_drop] at hi
    have := hc (i + 1) (by omega)
    rw [show o + 1 + i = o + (i + 1) by omega, this]
    simp
 ·unfold btailA at e
  split at e
  ·exact ⟨_, rfl, by cases e; rfl⟩
  ·refine ⟨_, rfl, ?_⟩
   cases e; rfl
theorem btail_run (ao : Option Addr) (n cap : Nat) (hn : 0 < n) (w : World) : (Instr.slice 51 (.slice ao n cap) (some (.int .i64 1)) none none).run Tryz.prog w = .ok (.slice (btailA ao cap) (n - 1) (cap - 1)) w := by
 have hz : (sizeOf (Tryz.prog.elem 51)).run Tryz.prog w = .ok 1 w := by kernel_rfl
 rw [run_slice_l (P := Tryz.prog) w 51 ao n cap Tryz.underlying51 .i64 1 (by omega) (by omega), hz]
 rfl
def bintB (f : List Int) : Bool := decide (0 < f.length) && (f.all limbB && (decide (nN (f.getD 0 0) <= 1) && goodB (numNeg f) (numMag f)))
theorem bbigB_is (f : List Int) : bigB f = (bintB f && !fixB (sgn (numNeg f) (val B32 (numMag f)))) := by
 unfold bigB bintB
 rw [Bool.and_assoc, Bool.and_assoc, Bool.and_assoc]
theorem bupto_limb (x : Int) : buptoB 4294967295 x = limbB x := by
 unfold buptoB limbB
 congr 2
 by_cases h : nN x <= 4294967295
 ·rw [decide_eq_true h, decide_eq_true (by omega)]
 ·rw [decide_eq_false h, decide_eq_false (by omega)]
theorem bupto_sign (x : Int) : buptoB 1 x = (limbB x && decide (nN x <= 1)) := by
 unfold buptoB limbB
 by_cases h : nN x <= 1
 ·rw [decide_eq_true h, decide_eq_true (show nN x < 4294967296 by omega)]; simp
 ·rw [decide_eq_false h]; simp
theorem brow_of_kz {w : World} {base : Nat} {v : Value} {l : List Int} (h : w.ownsRow base 58 1 v l.length (bkz .u32 l)) (hd : ∀ x ∈ l, 0 <= x /\ x < 4294967296) : ∃ ao cap, v = .slice ao l.length cap /\ Row .u32 B32 w ao l.length cap (l.map Int.toNat) := by
 have hdg : Dg B32 (l.map Int.toNat) := fun y hy => by
  obtain ⟨x, hx, rfl⟩ := List.mem_map.1 hy
  have := hd x hx
  show x.toNat < 4294967296
  omega
 rcases h.2 with ⟨e1, e2⟩ | ⟨g, cap, cur, e1, e2, e3, e4, e5, e6, e7⟩
 ·have := List.length_eq_zero_iff.1 e2
  subst this
  exact ⟨none, 0, e1, rfl, Nat.le_refl _, Nat.zero_le _, fun _ => rfl, hdg, .inl rfl⟩
 ·refine ⟨some ⟨g, 0, none⟩, cap, e1, by rw [List.length_map], e4, e5, fun e => (by cases e), hdg, .inr ⟨g, 0, rfl, (Array.getElem?_eq_some_iff.1 e3).1, fun i hi => ?_⟩⟩
  rw [List.length_map] at hi
  have hx := hd _ (getD_in_f hi)
  have e : ((l.map Int.toNat).getD i 0 : Nat) = (l.getD i 0).toNat := by
   rw [List.getD_eq_getElem?_getD, List.getElem?_map, List.getD_eq_getElem?_getD, List.getElem?_eq_getElem hi]; rfl
  rw [e, Int.toNat_of_nonneg hx.1, Nat.zero_add, blk_cell e3, <- bkz_get hi, <- e7, List.getElem?_take, if_pos (by omega)]
  simp
theorem binfo_u32' : (Tryz.prog.info? 58).map (fun i => (i.zero, i.size, i.bytes)) = some (some (.int .u32 0), 1, 4) := by kernel_rfl
def bIntPost (f : List Int) (w : World) (e : Ending) (w' : World) : Prop := ∃ neg ao n cap, e = .returned (.tuple #[.agg #[.bool neg, .slice ao n cap], .bool (bintB f)]) /\ (bintB f = true -> neg = numNeg f /\ n <= 40 /\ Row .u32 B32 w' ao n cap (numMag f)) /\ Below w.heap.size w w'
theorem bIntPost.no {f : List Int} {w w' : World} (h : bintB f = false) (hb : Below w.heap.size w w') : bIntPost f w (.returned (.tuple #[.agg #[.bool false, .slice none 0 0], .bool false])) w' :=
 ⟨false, none, 0, 0, by rw [h], fun e => (by rw [h] at e; cases e), hb⟩
set_option maxHeartbeats 8000000 in
theorem binteger_any (ao : Option Addr) (n cap : Nat) (f : List Int) (w : World) (R : URow w ao n cap f) (hn : n <= 5000000) : Calls Tryz.prog 84 #[.slice ao n cap] w (bIntPost f w) := by
 have hl := R.len
 have hft := R.fits
 have hmx := R.most
 unfold maxLen at hmx
 have HR := hid R
 have HIB : Hid (bintB f = (decide (0 < f.length) && (f.all limbB && (decide (nN (f.getD 0 0) <= 1) && goodB (numNeg f) (numMag f))))) := rfl
 by_cases h0 : n = 0
 ·have hno : Hid (bintB f = false) := by unfold Hid; rw [HIB.out, decide_eq_false (by omega), Bool.false_and]
  have hst := blk_new w #[.bool false, .slice none 0 0] 24
  have t0 := blk_cell hst 0
  have t1 := blk_cell hst 1
  have HB := hid (Ba w (.cells #[.bool false, .slice none 0 0] 24))
  subst h0
  clear hst R hl
  go_enter Tryz.func84, Tryz.ntmps84
  go_wp2_with fail
  (try simp only [Exit.inBlock, Exit.then]); refine bodyPost_ret (by simp [results, Tryz.results84, go_sem, t0, t1]; rfl) rfl ?_
  exact bIntPost.no hno.out HB.out
 have e0 : ((n : Int) == 0) = false := by simp; omega
 have hn0 : 0 < n := by omega
 obtain ⟨b, o, rfl, hlb, hc⟩ := R.some (by omega)
 have HC := hid hc
 have hr := blk_new w #[.bool false, .slice none 0 0] 24
 have HB := hid (Ba w (.cells #[.bool false, .slice none 0 0] 24))
 have HRR := hid hr
 obtain ⟨W0, hW0⟩ : ∃ W, W = w.alloc (.cells #[.bool false, .slice none 0 0] 24) := ⟨_, rfl⟩
 have hs0 : W0.heap.size = w.heap.size + 1 := by rw [hW0, size_alloc]
 rw [<- hW0] at HB HRR
 have c0 : W0.cell? ⟨b, o, none⟩ = some (.int .u64 (f.getD 0 0)) := by
  have := hc 0 (by omega)
  rw [Nat.add_zero] at this
  rw [HB.out.cell (p := ⟨b, o, none⟩) hlb]; exact this
 have hx0 := HR.out.bd _ (getD_in_f (l := f) (i := 0) (by omega))
 have C0 := hid (bupto_any 1 (f.getD 0 0) hx0 W0)
 have hsg := bupto_sign (f.getD 0 0)
 have HAF : Hid (∀ q, q < n -> limbB (f.getD q 0) = false -> bintB f = false) := fun q hq h => by
  rw [HIB.out, ball_off (p := limbB) (q := q) (by omega) h, Bool.false_and, Bool.and_false]
 have HZ1 : Hid (decide (nN (f.getD 0 0) <= 1) = false -> bintB f = false) := fun h => by rw [HIB.out, h, Bool.false_and, Bool.and_false, Bool.and_false]
 have HBAD : Hid (buptoB 1 (f.getD 0 0) = false -> bintB f = false) := fun h => by
  rw [hsg, Bool.and_eq_false_iff] at h
  rcases h with h | h
  ·exact HAF.out 0 (by omega) h
  ·exact HZ1.out h
 have c0' : (w.alloc (.cells #[.bool false, .slice none 0 0] 24)).cell? ⟨b, o, none⟩ = some (.int .u64 (f.getD 0 0)) := by rw [<- hW0]; exact c0
 obtain ⟨x0, hx0e⟩ : ∃ x, x = f.getD 0 0 := ⟨_, rfl⟩
 rw [<- hx0e] at c0 c0' C0 HBAD hsg HIB HZ1
 have HX0 := hid hx0e
 have fin : Hid (∀ W, Below W0.heap.size W0 W -> W.heap[w.heap.size]? = some (.cells #[.bool false, .slice none 0 0] 24 (0, 0)) /\ ∀ v1 v2, (((W.setCell ⟨w.heap.size, 0, none⟩ v1).setCell ⟨w.heap.size, 1, none⟩ v2).heap[w.heap.size]? = some (.cells #[v1, v2] 24 (0, 0)) /\ Below w.heap.size w ((W.setCell ⟨w.heap.size, 0, none⟩ v1).setCell ⟨w.heap.size, 1, none⟩ v2))) := fun W hb => by
  have h1 := (hb.block w.heap.size (by omega)).trans HRR.out
  exact ⟨h1, fun v1 v2 => ⟨store2 h1, store2_below (Bt HB.out hb) (Nat.le_refl _)⟩⟩
 cases hb0 : buptoB 1 x0
 ·have hno := HBAD.out hb0
  have HNO := hid hno
  rw [hb0] at C0
  have t0 := blk_cell hr 0
  have t1 := blk_cell hr 1
  rw [hW0] at HB C0
  clear R hc hb0 hno hsg hx0 hr c0 hx0e fin hs0 h0
  go_enter Tryz.func84, Tryz.ntmps84
  go_wp2_with (go_at_call 103; (with_reducible refine C0.out.mono ?_); rintro e W1 ⟨m, rfl, _, hw1⟩; rw [hw1]; clear hw1)
  (try simp only [Exit.inBlock, Exit.then]); refine bodyPost_ret (by simp [results, Tryz.results84, go_sem, t0, t1]; rfl) rfl ?_
  exact bIntPost.no HNO.out HB.out
 ·rw [hb0] at C0
  have hn1 : nN x0 <= 1 /\ 0 <= nN x0 := by
   unfold buptoB at hb0
   simp only [Bool.and_eq_true, decide_eq_true_eq] at hb0
   omega
  have HNG : Hid (numNeg f = decide (nN x0 = 1)) := by unfold Hid numNeg; rw [<- HX0.out]
  obtain ⟨y0, hy0⟩ : ∃ y, y = nN x0 := ⟨_, rfl⟩
  rw [<- hy0] at C0 hn1 HNG
  have hng : (y0 == 1) = decide (y0 = 1) := rfl
  obtain ⟨ng, hnge⟩ : ∃ b, b = decide (y0 = 1) := ⟨_, rfl⟩
  rw [<- hnge] at hng HNG
  have htl := btail_row HR.out (by omega)
  have HTL := hid htl
  have htr := fun wx => btail_run (some ⟨b, o, none⟩) n cap (by omega) wx
  obtain ⟨ta, hta⟩ : ∃ a, a = btailA (some ⟨b, o, none⟩) cap := ⟨_, rfl⟩
  rw [<- hta] at HTL htr
  have b1 := Ba W0 (.cells #[.bool ng, .slice none 0 0] 24)
  have hx1 := blk_new W0 #[.bool ng, .slice none 0 0] 24
  obtain ⟨gx, hgx⟩ : ∃ g, g = w.heap.size + 1 := ⟨_, rfl⟩
  rw [hs0, <- hgx] at hx1
  have hs0' : W0.heap.size = gx := by omega
  have hgr : w.heap.size < gx := by omega
  obtain ⟨W1, hW1⟩ : ∃ W, W = W0.alloc (.cells #[.bool ng, .slice none 0 0] 24) := ⟨_, rfl⟩
  rw [<- hW1] at b1 hx1
  have HS0 := hid hs0'
  have HS1 : Hid (W1.heap.size = gx + 1) := by unfold Hid; rw [hW1, size_alloc, hs0']
  have HB1 := hid b1
  have HX1 := hid hx1
  have hW1' : (w.alloc (.cells #[.bool false, .slice none 0 0] 24)).alloc (.cells #[.bool ng, .slice none 0 0] 24) = W1 := by rw [hW1, hW0]
  obtain ⟨tl, htle⟩ : ∃ l, l = f.drop 1 := ⟨_, rfl⟩
  obtain ⟨m, hme⟩ : ∃ k, k = n - 1 := ⟨_, rfl⟩
  obtain ⟨cm, hcme⟩ : ∃ k, k = cap - 1 := ⟨_, rfl⟩
  rw [<- htle, <- hme, <- hcme] at HTL
  rw [<- hme, <- hcme] at htr
  have HTE := hid htle
  have HME := hid hme
  have htlen := HTL.out.1.len
  have htft := HTL.out.1.fits
  have htmx := HTL.out.1.most
  unfold maxLen at htmx
  have hm1 : m <= 5000000 := by omega
  have HTF : Hid (∀ q, q < m -> tl.getD q 0 = f.getD (q + 1) 0) := fun q hq => by rw [HTE.out]; simp
  have HAL : Hid (tl.all limbB = true -> f.all limbB = true) := fun h => by
   have e1 : f = f.take 1 ++ tl := by rw [HTE.out, List.take_append_drop]
   rw [e1, List.all_append, h, Bool.and_true]
   have e2 := ball_take_one (p := limbB) (f := f) (q := 0) (by omega)
   rw [e2, <- HX0.out]
   rw [bupto_sign, Bool.and_eq_true] at hb0
   rw [hb0.1]; rfl
  have HMG : Hid (numMag f = (tl.map nN).map Int.toNat) := by
   unfold Hid numMag
   rw [<- HTE.out, List.map_map]; rfl
  have HID : Hid (tl.all limbB = true -> bintB f = goodB (numNeg f) (numMag f)) := fun h => by
   rw [HIB.out, HAL.out h, decide_eq_true (show 0 < f.length by omega), decide_eq_true (show nN x0 <= 1 by rw [<- hy0]; exact hn1.1)]
   simp
  have HW1' := hid hW1'
  have HGX := hid hgx
  rw [hW0] at C0
  clear R hc hb0 hsg hx0 hr hx0e hy0 htl hta hnge htle hme hcme b1 hx1 hW1 hs0 hs0' c0 hW1' hgx h0 hW0
  go_enter Tryz.func84, Tryz.ntmps84
  go_wp2_with (go_at_call 103; (with_reducible refine C0.out.mono ?_); rintro e Wq ⟨m9, rfl, hm9, hw1⟩; rw [hw1, hm9 (by trivial)]; clear hw1 hm9)
  rw [HW1'.out, <- HGX.out]
  clear c0' htr
  have HBW : Hid (∀ wx, Below gx W0 wx -> Below w.heap.size w wx) := fun wx hb => HB.out.trans (hb.mono (by omega))
  go_loopw [8, 9, 10, 31] (fun _ _ _ i wr => ∃ q : Nat, q <= m /\ i = .int .i64 q /\ Hid (∃ vM, wr.heap[gx]? = some (.cells #[.bool ng, vM] 24 (0, 0)) /\ wr.ownsRow (gx + 1) 58 1 vM q (bkz .u32 ((tl.take q).map nN)) /\ (tl.take q).all limbB = true /\ Below gx W0 wr)) (fun _ _ _ i _ => m - (intOf i).toNat)
  case atStart => exact ⟨0, Nat.zero_le _, rfl, .slice none 0 0, HX1.out, World.ownsRow_nil _ _ _ _, rfl, by have := HB1.out; rw [HS0.out] at this; exact this⟩
  case round =>
   obtain ⟨q, hq, rfl, hI⟩ := hrel
   obtain ⟨vM, i1, i2, i3, i4⟩ := hI.out
   have HI1 := hid i1
   have HI2 := hid i2
   have HI3 := hid i3
   have HI4 := hid i4
   have hgs : Hid (gx + 1 <= wr.heap.size) := (Array.getElem?_eq_some_iff.1 i1).1
   have HGR : Hid (∀ wx, Below gx W0 wx -> wx.heap[w.heap.size]? = some (.cells #[.bool false, .slice none 0 0] 24 (0, 0))) := fun wx hb => (hb.block w.heap.size hgr).trans HRR.out
   clear hI
   by_cases hlt : q < m
   ·obtain ⟨b2, o2, rfl, hlb2, hc2⟩ := (HTL.out.1.on (HBW.out wr i4)).some (by omega)
    have ck := hc2 q hlt
    have hmem := HTL.out.1.bd _ (getD_in_f (l := tl) (i := q) (by omega))
    have HT := hid (bnmap_take (f := tl) (q := q) (by omega))
    have HTA := hid (ball_take_one (p := limbB) (f := tl) (q := q) (by omega))
    have HNO : Hid (limbB (tl.getD q 0) = false -> bintB f = false) := fun h => HAF.out (q + 1) (by have := HME.out; omega) (by rw [<- HTF.out q hlt]; exact h)
    obtain ⟨x, hx⟩ : ∃ x, x = tl.getD q 0 := ⟨_, rfl⟩
    rw [<- hx] at ck hmem HT HTA HNO
    have C1 := hid (bupto_any 4294967295 x hmem wr)
    rw [bupto_limb] at C1
    have hnb : limbB x = true -> 0 <= nN x /\ nN x < 4294967296 := fun h => by
     unfold limbB at h
     simp only [Bool.and_eq_true, decide_eq_true_eq] at h
     omega
    obtain ⟨bx, hbx⟩ : ∃ b, b = limbB x := ⟨_, rfl⟩
    have HUB := hid hbx.symm
    rw [<- hbx] at C1 hnb
    clear hc2 hx hbx hmem i2 i3
    cases bx
    ·have hno := HNO.out HUB.out
     have HN2 := hid hno
     have g1 := HGR.out wr i4
     have y0 := blk_cell g1 0
     have y1 := blk_cell g1 1
     have p0 := blk_free g1 0
     have p1 := blk_free g1 1
     have hst := store2 (v1 := .bool false) (v2 := .slice none 0 0) g1
     have t0 := blk_cell hst 0
     have t1 := blk_cell hst 1
     have HQ2 := hid (store2_below (v1 := .bool false) (v2 := .slice none 0 0) (HBW.out wr i4) (Nat.le_refl w.heap.size))
     clear hnb hno g1 hst i1 i4
     go_wp2_with (go_at_call 103; (with_reducible refine C1.out.mono ?_); rintro e Wq ⟨m9, rfl, _, hw1⟩; rw [hw1]; clear hw1)
     (try simp only [Exit.inBlock, Exit.then]); refine bodyPost_ret (by simp [results, Tryz.results84, go_sem, t0, t1]; rfl) rfl ?_
     exact bIntPost.no HN2.out HQ2.out
    ·have hnr := hnb rfl
     obtain ⟨y, hy⟩ : ∃ y, y = nN x := ⟨_, rfl⟩
     rw [<- hy] at hnr C1 HT
     obtain ⟨aM, cM, hvM, hMf, hMm⟩ := slice_form HI2.out
     subst hvM
     have z1 := blk_cell i1 1
     have HO1 := hid (own_at HI2.out (fun b e => (Ba wr (.cells #[.int .u32 y] 58)).block b (HI2.out.lt b e).2))
     have HC1 : Hid ((wr.alloc (.cells #[.int .u32 y] 58)).cell? ⟨wr.heap.size, 0, none⟩ = some (.int .u32 y)) := blk_cell (blk_new wr #[.int .u32 y] 58) 0
     have HX2 := hid (((Ba wr (.cells #[.int .u32 y] 58)).block gx (by have := hgs.out; omega)).trans i1)
     have HBA : Hid (Below gx W0 (wr.alloc (.cells #[.int .u32 y] 58))) := HI4.out.trans ((Ba wr _).mono (by have := hgs.out; omega))
     have HSA : Hid (gx + 1 <= (wr.alloc (.cells #[.int .u32 y] 58)).heap.size) := by unfold Hid; rw [size_alloc]; have := hgs.out; omega
     clear hy hnb i1 i4
     go_wp2_with (first
      | (go_at_call 103; (with_reducible refine C1.out.mono ?_); rintro e Wq ⟨m9, rfl, hm9, hw1⟩; rw [hw1, hm9 (by trivial)]; clear hw1 hm9)
      | (at_builtin; refine bappK .u32 4 (by decide) rfl _ _ 22 rfl (gx + 1) 58 Tryz.underlying22 binfo_u32' _ q ((tl.take q).map nN) rfl HO1.out ⟨wr.heap.size, 0, none⟩ 1 y rfl HC1.out (by omega) HSA.out ?_; intro g2 cap2 w2 ho2 hg2 hl2 hlt2; have hx3 := (hg2.block gx (by have := HSA.out; omega) (fun e => by have := (HO1.out.lt gx e.symm).1; omega)).trans HX2.out; have d1 := blk_cell hx3 1; have df := blk_free hx3 1; have HX3 := hid hx3; have HO2 := hid ho2; have HG2 := hid hg2; have HL2 := hid hl2; clear ho2 hg2 hl2 hx3))
     have hg2r : gx + 1 <= g2 := by
      rcases HL2.out with e | e
      ·exact (HO1.out.lt g2 e).1
      ·have := HSA.out; omega
     refine ⟨⟨q + 1, by omega, by go_num, .slice (some ⟨g2, 0, none⟩) (q + 1) cap2, ?_, ?_, ?_, ?_⟩, by simp [intOf] <;> omega⟩
     ·rw [blk_set (i := 1) HX3.out]; rfl
     ·rw [HT.out]
      exact own_at HO2.out (fun b e => Below.heap_setCell _ _ _ _ (fun e2 => by have e3 : g2 = b := Option.some.inj e; have e4 : b = gx := e2; omega))
     ·rw [HTA.out, HI3.out, HUB.out]; rfl
     ·exact (HBA.out.grown HG2.out (by have := HSA.out; omega) (fun b hb => by have := (HO1.out.lt b hb).1; omega)).setCell (p := ⟨gx, 1, none⟩) (Nat.le_refl gx) _
   ·obtain rfl : m = q := by omega
    rw [List.take_of_length_le (by omega)] at i2 i3
    have hml : (tl.map nN).length = m := by rw [List.length_map]; exact htlen
    have i2' := i2
    rw [<- hml] at i2'
    have hdd : ∀ x ∈ tl.map nN, 0 <= x /\ x < 4294967296 := fun x hx => by
     obtain ⟨z, hz, rfl⟩ := List.mem_map.1 hx
     have h := List.all_eq_true.1 i3 z hz
     unfold limbB at h
     simp only [Bool.and_eq_true, decide_eq_true_eq] at h
     omega
    obtain ⟨aM, cM, hvM, hrow⟩ := brow_of_kz i2' hdd
    have HFIN : Hid (∀ wx : World, (∀ b, gx + 1 <= b -> b < wr.heap.size -> wx.heap[b]? = wr.heap[b]?) -> Row .u32 B32 wx aM m cM (numMag f)) := fun wx hwx => by
     have i3' := own_at i2' (w' := wx) (fun b e => hwx b (i2'.lt b e).1 (i2'.lt b e).2)
     obtain ⟨a', c', e', hr'⟩ := brow_of_kz i3' hdd
     rw [hvM] at e'
     injection e' with e1 e2 e3
     subst e1 e3
     rw [hml, <- HMG.out] at hr'
     exact hr'
    rw [hml, <- HMG.out] at hrow
    rw [hml] at hvM
    subst hvM
    have HROW := hid hrow
    have hrf := hrow.fits
    have hrm := hrow.most
    unfold maxLen at hrm
    have CG := hid (good_any ng aM m cM (numMag f) wr.drew (hrow.below (bbelow_drew wr)))
    have HIE := hid (HID.out i3)
    rw [HNG.out] at HIE
    rw [<- HIE.out] at CG
    have z0 := blk_cell i1 0
    have z1 := blk_cell i1 1
    have g1 := HGR.out wr i4
    have y0 := blk_cell g1 0
    have y1 := blk_cell g1 1
    have p0 := blk_free g1 0
    have p1 := blk_free g1 1
    obtain ⟨gb, hgb⟩ : ∃ g, g = bintB f := ⟨_, rfl⟩
    rw [<- hgb] at CG
    have HGB := hid hgb
    clear i2 i3 i2' hdd hml hrow hgb g1 i1 i4
    go_wp2_with fail
    go_region_with (go_at_call 32; (with_reducible refine CG.out.mono ?_); rintro e W2 ⟨rfl, b2⟩; have HB2 := hid b2; have q1 := (b2.block gx hgs.out).trans HI1.out; have q2 := (b2.block w.heap.size (Nat.lt_trans hgr hgs.out)).trans (HGR.out wr HI4.out); have q3 := blk_cell q1 0; have q4 := blk_cell q1 1; have q5 := blk_cell q2 0; have q6 := blk_cell q2 1; have q7 := blk_free q2 0; have q8 := blk_free q2 1; clear b2)
    all_goals
     have hst := store2 (v1 := .bool ng) (v2 := .slice aM m cM) q2
     have t0 := blk_cell hst 0
     have t1 := blk_cell hst 1
     have HQ2 := hid q2
     clear hst q1 q2 q3 q4 q5 q6 q7 q8 z0 z1 y0 y1 p0 p1
     go_wp2_with fail
     (try simp only [Exit.inBlock, Exit.then]); refine bodyPost_ret (by simp [results, Tryz.results84, go_sem, t0, t1]; rfl) rfl ?_
     have hgg := hgs.out
     have hbw := HBW.out wr HI4.out
     refine ⟨ng, aM, m, cM, by rw [HGB.out], fun hg => ⟨HNG.out.symm, ?_, HFIN.out _ (fun b e1 e2 => ?_)⟩, store2_below (hbw.trans ((Bt (bbelow_drew wr) HB2.out).mono hbw.size)) (Nat.le_refl _)⟩
     ·rw [HIE.out] at hg
      have h1 := goodB_len hg
      rw [HROW.out.len] at h1
      exact h1
     ·exact (store2_far (by omega)).trans (HB2.out.block b e2)
end Go.Proofs.YtdekkieajffblaaGreatDoor
