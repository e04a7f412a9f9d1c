import Derived.Test.YtadfihnffboelaaGreatDoorG3
import Derived.Test.YtadfihnffboelaaGreatDoorW41
import Derived.Test.YtadfihnffboelaaGreatDoorV2
import Derived.Test.YtadfihnffboelaaGreatDoorW12
import Derived.Test.YtadfihnffboelaaGreatDoorW42
import Derived.Test.YtadfihnffboelaaGreatDoorW40
set_option linter.unusedVariables false
set_option linter.unusedSimpArgs false
namespace Go.Proofs.YtadfihnffboelaaGreatDoor
open Go.RowKit
def digs : Nat -> Nat -> List Nat
 | 0, _ => []
 | f + 1, v => if v = 0 then [] else (v % 10) :: digs f (v / 10)
theorem digs_ok : ∀ f v, v <= f -> Dg 10 (digs f v) /\ Tr (digs f v) /\ val 10 (digs f v) = v /\ (v ≠ 0 -> digs f v ≠ [])
 | 0, v, h => by
  obtain rfl : v = 0 := by omega
  exact ⟨Dg.nil _, Tr.nil, rfl, fun h => absurd rfl h⟩
 | f + 1, v, h => by
  by_cases hv : v = 0
  ·subst hv; simp [digs, val]; exact ⟨Dg.nil _, Tr.nil⟩
  ·obtain ⟨h1, h2, h3, h4⟩ := digs_ok f (v / 10) (by omega)
   have e : digs (f + 1) v = (v % 10) :: digs f (v / 10) := by simp [digs, hv]
   rw [e]
   refine ⟨fun x hx => ?_, .inr ?_, ?_, fun _ => by simp⟩
   ·rcases List.mem_cons.1 hx with rfl | hx
    ·omega
    ·exact h1 x hx
   ·by_cases h0 : v / 10 = 0
    ·have : digs f (v / 10) = [] := by rw [h0]; cases f <;> simp [digs]
     rw [this]; simp; omega
    ·have hne := h4 h0
     have := h2.resolve_left hne
     obtain ⟨n, hn⟩ : ∃ n, (digs f (v / 10)).length = n + 1 := ⟨(digs f (v / 10)).length - 1, by have := List.length_pos_iff.2 hne; omega⟩
     rw [List.length_cons, hn]
     rw [hn] at this
     simpa using this
   ·rw [val_cons, h3]; omega
def printL (neg : Bool) (v : Nat) : List Nat := if digs v v = [] then [48] else (if neg then [45] else []) ++ ((digs v v).map chr).reverse
theorem Printed.is {neg : Bool} {v : Nat} {s : ByteArray} {en : Int} (h : Printed neg v 10 s en) : bs s = printL neg v /\ en = 0 := by
 rcases h with ⟨a, _⟩ | ⟨_, he, D, d1, d2, d3, d4⟩
 ·exact absurd ⟨by omega, by omega⟩ a
 ·obtain ⟨k1, k2, k3, _⟩ := digs_ok v v (Nat.le_refl _)
  have hD : D = digs v v := digits_unique (B := 10) (by omega) d1 k1 d2 k2 (by rw [k3]; exact d3)
  subst hD
  exact ⟨d4, he⟩
def printedB (t : ByteArray) : Bool := digitsB 10 (cutS (bs t)).2 && decide (hv 10 (cutS (bs t)).2 < B32 ^ 40) && decide (bs t = printL ((cutS (bs t)).1 && decide (hv 10 (cutS (bs t)).2 ≠ 0)) (hv 10 (cutS (bs t)).2))
theorem ans_int {w : World} {x : Value} {en : Int} {neg : Bool} {v : Nat} (h : Ans w x en neg v) : (¬ Big v /\ en = 0 /\ ∃ ao n cap l, x = .agg #[.bool (neg && decide (v ≠ 0)), .slice ao n cap] /\ Row .u32 B32 w ao n cap l /\ goodB (neg && decide (v ≠ 0)) l = true /\ val B32 l = v /\ n <= 40) \/ (Big v /\ en = 10) := by
 rcases h with ⟨h1, h2, l, ⟨ao, n, cap, h3, R⟩, h4, h5⟩ | ⟨h1, h2, _⟩
 ·refine .inl ⟨h1, h2, ao, n, cap, l, ?_, R, ?_, h5, ?_⟩
  ·rw [h3]
   have e0 : (neg && decide (l ≠ [])) = (neg && decide (v ≠ 0)) := ?_
   ·rw [e0]
   rw [Bool.eq_iff_iff]
   have := h4.zero_iff (B := B32) (by decide)
   rw [h5] at this
   simp only [Bool.and_eq_true, decide_eq_true_eq, ne_eq]
   have e2 : l.length = 0 ↔ l = [] := List.length_eq_zero_iff
   rw [this, e2]
  ·have hl := (small_len R.dg h4).2 (by rw [h5]; exact h1)
   refine goodB_mk h4 hl fun h0 => ?_
   have := (h4.zero_iff (B := B32) (by decide)).2 h0
   rw [h5] at this
   simp [this]
  ·rw [<- R.len]; exact (small_len R.dg h4).2 (by rw [h5]; exact h1)
 ·exact .inr ⟨h1, h2⟩
theorem Ans.form' {w : World} {x : Value} {en : Int} {neg : Bool} {v : Nat} (h : Ans w x en neg v) : ∃ s ao n cap l, x = .agg #[.bool s, .slice ao n cap] /\ Row .u32 B32 w ao n cap l /\ True := by
 rcases h with ⟨_, _, l, ⟨ao, n, cap, h3, R⟩, _⟩ | ⟨_, _, h⟩
 ·exact ⟨_, ao, n, cap, l, h3, R, trivial⟩
 ·exact ⟨false, none, 0, 0, [], h, Row.nil _ _ _ _, trivial⟩
theorem str_eq (s t : ByteArray) : (s.toList == t.toList) = decide (s = t) := by
 rw [Bool.eq_iff_iff, beq_iff_eq, decide_eq_true_eq]
 constructor
 ·intro h
  rw [Lib.toList_data, Lib.toList_data] at h
  obtain ⟨a⟩ := s
  obtain ⟨b⟩ := t
  exact congrArg ByteArray.mk (Array.toList_inj.1 h)
 ·rintro rfl; rfl
set_option maxHeartbeats 1000000 in
theorem isPrinted_any (t : ByteArray) (w : World) (ht : t.size <= maxLen) : Calls Tryz.prog 170 #[.string t] w fun e w' => e = .returned (.bool (printedB t)) /\ Below w.heap.size w w' := by
 go_enter Tryz.func170, Tryz.ntmps170
 go_wp2_with fail
 refine (parse_any t 10 _ ht).mono ?_
 rintro e w1 ⟨x, en, rfl, b1, hP⟩
 rcases hP with ⟨h, _⟩ | ⟨_, hd, rfl, rfl⟩ | ⟨_, hd, hA⟩
 ·exact absurd ⟨by omega, by omega⟩ h
 ·go_wp2
  go_ret
  refine ⟨?_, Bt b1 (Ba _ _)⟩
  unfold printedB; rw [hd]; rfl
 ·rcases ans_int hA with ⟨hb, rfl, ao, n, cap, l, rfl, R, g, hv_, hn⟩ | ⟨hb, rfl⟩
  ·have b2 := Ba w1 (.cells #[.bool ((cutS (bs t)).1 && decide (hv (10 : Int).toNat (cutS (bs t)).2 ≠ 0)), .slice ao n cap] 134)
   have R2 := hid (R.below b2)
   have G2 := hid g
   have HB := hid (Bt b1 b2)
   have HD := hid hd
   have HV := hid hv_
   have HBG := hid hb
   obtain ⟨sg, hsg⟩ : ∃ sg, sg = ((cutS (bs t)).1 && decide (hv (10 : Int).toNat (cutS (bs t)).2 ≠ 0)) := ⟨_, rfl⟩
   rw [<- hsg] at R2 G2 HB b2 ⊢
   have HSG := hid hsg
   clear R g hA hd hv_ hb b1 b2 hsg
   go_wp2_with fail
   generalize w1.alloc (.cells #[.bool sg, .slice ao n cap] 134) = w2 at *
   refine (print_all sg ao n cap l 10 w2 R2.out G2.out).mono ?_
   rintro e w3 ⟨s, en, rfl, hpr, b3⟩
   obtain ⟨hbs, rfl⟩ := hpr.is
   have HB3 := hid (Bt HB.out b3)
   have HE : Hid (decide (s = t) = printedB t) := by
    unfold Hid printedB
    rw [HV.out, HSG.out] at hbs
    have e10 : (10 : Int).toNat = 10 := rfl
    rw [e10] at hbs
    have hnb : hv 10 (cutS (bs t)).2 < B32 ^ 40 := by have := HBG.out; unfold Big at this; rw [e10] at this; omega
    rw [HD.out, <- hbs]
    simp only [Bool.true_and, hnb, decide_true]
    rw [Bool.eq_iff_iff, decide_eq_true_eq, decide_eq_true_eq]
    exact ⟨fun h => by rw [h], fun h => bs_ext h.symm⟩
   clear hpr hbs b3
   go_wp2
   go_ret
   refine ⟨?_, HB3.out⟩
   rw [<- HE.out]
   exact congrArg (fun z => Ending.returned (.bool z)) (str_eq s t)
  ·have HB := hid b1
   have hp : Hid (printedB t = false) := by
    unfold Hid printedB
    have hnb : ¬ hv 10 (cutS (bs t)).2 < B32 ^ 40 := by unfold Big at hb; have e10 : (10 : Int).toNat = 10 := rfl; rw [e10] at hb; omega
    simp only [hnb, decide_false, Bool.and_false, Bool.false_and]
   obtain ⟨sx, ax, nx, cx, lx, rfl, _, _⟩ := hA.form'
   clear hA hb hd b1
   go_wp2
   go_ret
   exact ⟨by rw [hp.out]; rfl, Bt HB.out (Ba _ _)⟩
def fixB (z : Int) : Bool := decide (-1152921504606846976 <= z) && decide (z < 1152921504606846976)
def nK (x : Int) : Int := (ofR x).1
def nN (x : Int) : Int := (ofR x).2.1
def limbB (x : Int) : Bool := decide (nK x = 1) && (decide (0 <= nN x) && decide (nN x < 4294967296))
def numNeg (l : List Int) : Bool := decide (nN (l.getD 0 0) = 1)
def numMag (l : List Int) : List Nat := (l.drop 1).map (fun y => (nN y).toNat)
def bigB (l : List Int) : Bool := decide (0 < l.length) && (l.all limbB && (decide (nN (l.getD 0 0) <= 1) && (goodB (numNeg l) (numMag l) && !fixB (sgn (numNeg l) (val B32 (numMag l))))))
def byB (x : Int) : Bool := decide (nK x = 1) && (decide (0 <= nN x) && decide (nN x <= 255))
def lrB (x : Int) : Bool := decide (nK x = 4)
def byT (l : List Int) : List Nat := l.map (fun x => (nN x).toNat)
def lrT (l : List Int) : List Nat := l.flatMap (fun x => bs (Utf8.encode (nN x)))
def voidN : Nd := ⟨11, 0, ByteArray.empty, []⟩
set_option maxRecDepth 100000
def mgF : Nat -> Nat -> List Nat
 | 0, _ => []
 | f + 1, v => if v = 0 then [] else (v % B32) :: mgF f (v / B32)
def mg (v : Nat) : List Nat := mgF v v
theorem mgF_ok : ∀ f v, v <= f -> Dg B32 (mgF f v) /\ Tr (mgF f v) /\ val B32 (mgF f v) = v /\ (v ≠ 0 -> mgF f v ≠ [])
 | 0, v, h => by
  obtain rfl : v = 0 := by omega
  exact ⟨Dg.nil _, Tr.nil, rfl, fun h => absurd rfl h⟩
 | f + 1, v, h => by
  have hB : B32 = 4294967296 := rfl
  by_cases hv : v = 0
  ·subst hv; simp [mgF, val]; exact ⟨Dg.nil _, Tr.nil⟩
  ·obtain ⟨h1, h2, h3, h4⟩ := mgF_ok f (v / B32) (by rw [hB]; omega)
   have e : mgF (f + 1) v = (v % B32) :: mgF f (v / B32) := by simp [mgF, hv]
   rw [e]
   refine ⟨fun x hx => ?_, .inr ?_, ?_, fun _ => by simp⟩
   ·rcases List.mem_cons.1 hx with rfl | hx
    ·rw [hB]; omega
    ·exact h1 x hx
   ·by_cases h0 : v / B32 = 0
    ·have : mgF f (v / B32) = [] := by rw [h0]; cases f <;> simp [mgF]
     rw [this]; simp; rw [hB] at h0 ⊢; omega
    ·have hne := h4 h0
     have := h2.resolve_left hne
     obtain ⟨n, hn⟩ : ∃ n, (mgF f (v / B32)).length = n + 1 := ⟨(mgF f (v / B32)).length - 1, by have := List.length_pos_iff.2 hne; omega⟩
     rw [List.length_cons, hn]
     rw [hn] at this
     simpa using this
   ·rw [val_cons, h3, hB]; omega
theorem mg_is {l : List Nat} {v : Nat} (hd : Dg B32 l) (ht : Tr l) (hv : val B32 l = v) : l = mg v := by
 obtain ⟨h1, h2, h3, _⟩ := mgF_ok v v (Nat.le_refl _)
 exact digits_unique (by decide) hd h1 ht h2 (hv.trans h3.symm)
def txZ (t : ByteArray) : Int := sgn ((cutS (bs t)).1 && decide (hv 10 (cutS (bs t)).2 ≠ 0)) (hv 10 (cutS (bs t)).2)
def NdVal (d : Nd) (ka : Option Addr) (kc : Nat) : Value := .agg #[.int .i64 d.kind, .int .i64 d.num, .string d.text, .slice ka d.kids.length kc]
def sizeN (d : Nd) : Int :=
 if d.kind = 1 \/ d.kind = 2 \/ d.kind = 4 \/ d.kind = 6 \/ d.kind = 10 \/ d.kind = 11 then (0 : Int)
 else if d.kind = 3 then (if fixB (txZ d.text) = true then 0 else 2 + (((mg (txZ d.text).natAbs).length : Nat) : Int))
 else if d.kind = 5 then 1 + (((ltrs d.text).length : Nat) : Int)
 else if d.kind = 7 \/ d.kind = 8 then 1 + ((d.kids.length : Nat) : Int)
 else if d.kind = 9 then 1 + ((d.text.size : Nat) : Int) else (-1 : Int)
theorem slice_form {w : World} {base : Nat} {e : TypeId} {k : Nat} {v : Value} {n : Nat} {xs : List Value} (h : w.ownsRow base e k v n xs) : ∃ a c, v = .slice a n c /\ n <= c /\ c <= 9223372036854775807 := by
 rcases h.2 with ⟨e1, e2⟩ | ⟨g, cap, cur, e1, _, _, h4, h5, _⟩
 ·subst e2; exact ⟨none, 0, e1, Nat.le_refl _, by omega⟩
 ·unfold maxLen at h5; exact ⟨_, _, e1, h4, h5⟩
theorem appU {P : Program} {w : World} {ops : Array Oper} {rest : List Oper} {o : Oper} {a : Act} {Q : Exit -> Act -> World -> Prop} (hgd : o.guard = none) (s x : Operand) (t : TypeId) (ho : o.op = .call { callee := .builtin .append, args := #[s, x], argTypes := #[t, t] })
  (base : Nat) (e : TypeId) (ht : P.underlying t = some (.slice e)) (hi : (P.info? e).map (fun i => (i.zero, i.size, i.bytes)) = some (some (.int .u64 0), 1, 8))
  (v : Value) (n : Nat) (l : List Int) (hs : a.eval s = v) (hown : w.ownsRow base e 1 v n (uz l))
  (ao : Option Addr) (m c : Nat) (r : List Int) (hx : a.eval x = .slice ao m c) (hr : URow w ao m c r) (hsm : n + m <= 1099511627776) (hbase : base <= w.heap.size)
  (h : ∀ v' w', w'.ownsRow base e 1 v' (n + m) (uz (l ++ r)) -> w.grownBy w' v.ownBlock -> wpList P ops Q rest (a.put o.dst v') w') : wpList P ops Q (o :: rest) a w :=
 wpList_plain hgd fun K hK => by
  have := stepU (P := P) (w := w) (ops := ops) (o := o) (a := a) (K := K) (Q := Q) (E := False) o.dst rfl hgd s x t ho base e ht hi v n l hs hown ao m c r hx hr hsm hbase (fun v' w' h1 h2 => hK _ _ (h v' w' h1 h2))
  have hw : Region.wanted o (yielded ops a.tmps) = true := by simp [Region.wanted, hgd]
  rw [if_pos hw] at this
  exact this
theorem urow_one {w : World} {g : Nat} {z : Int} {t : TypeId} (h : w.heap[g]? = some (.cells #[.int .u64 z] t (0, 0))) (hz : U64 z) : URow w (some ⟨g, 0, none⟩) 1 1 [z] :=
 ⟨rfl, Nat.le_refl _, by unfold maxLen; omega, fun e => (by cases e), fun y hy => by simp at hy; rw [hy]; exact hz, .inr ⟨g, 0, rfl, (Array.getElem?_eq_some_iff.1 h).1, fun i hi => by
  have : i = 0 := by simpa using hi
  subst this
  exact blk_cell h 0⟩⟩
theorem urow_own {w : World} {B : Nat} {e : TypeId} {v : Value} {l : List Int} (h : w.ownsRow B e 1 v l.length (uz l)) (hb : ∀ z ∈ l, U64 z) : ∃ ao cap, v = .slice ao l.length cap /\ URow w ao l.length cap l := by
 rcases h.2 with ⟨rfl, h0⟩ | ⟨g, cap, cur, rfl, h2, h3, h4, h5, h6, h7⟩
 ·have : l = [] := List.length_eq_zero_iff.1 h0
  subst this
  exact ⟨none, 0, rfl, rfl, Nat.le_refl _, by unfold maxLen; omega, fun _ => rfl, hb, .inl rfl⟩
 ·refine ⟨some ⟨g, 0, none⟩, cap, rfl, rfl, h4, h5, fun e => (by cases e), hb, .inr ⟨g, 0, rfl, (Array.getElem?_eq_some_iff.1 h3).1, fun i hi => ?_⟩⟩
  rw [Nat.zero_add, blk_cell h3]
  have : cur[i]? = (uz l)[i]? := by rw [<- h7, List.getElem?_take, if_pos (by omega)]; simp
  rw [this, uz_get hi]
def bigL (neg : Bool) (l : List Nat) : List Int := wordR 1 (if neg then 1 else 0) 0 :: l.map (fun x => wordR 1 (x : Nat) 0)
theorem bigL_take (neg : Bool) {l : List Nat} {q : Nat} (h : q < l.length) : bigL neg (l.take (q + 1)) = bigL neg (l.take q) ++ [wordR 1 (l.getD q 0 : Nat) 0] := by
 unfold bigL
 rw [List.take_succ_eq_append_getElem h, List.map_append, List.cons_append, List.getD_eq_getElem?_getD, List.getElem?_eq_getElem h]; rfl
theorem bigL_len (neg : Bool) (l : List Nat) : (bigL neg l).length = l.length + 1 := by simp [bigL]
theorem bigL_u (neg : Bool) (l : List Nat) : ∀ z ∈ bigL neg l, U64 z := by
 intro z hz
 unfold bigL at hz
 rcases List.mem_cons.1 hz with rfl | hz
 ·exact wordR_rng _ _ _
 ·obtain ⟨x, _, rfl⟩ := List.mem_map.1 hz; exact wordR_rng _ _ _
theorem own_one {w W : World} {z : Int} (hb : Below w.heap.size w W) : (W.alloc (.cells #[.int .u64 z] 70)).ownsRow w.heap.size 70 1 (.slice (some ⟨W.heap.size, 0, none⟩) 1 1) 1 (uz [z]) :=
 ⟨rfl, .inr ⟨W.heap.size, 1, #[.int .u64 z], rfl, hb.size, blk_new _ _ _, Nat.le_refl _, by unfold maxLen; omega, rfl, rfl⟩⟩
set_option maxHeartbeats 4000000
def isR (k x : Int) : Bool := decide ((ofR x).1 = k)
def hasR (k x : Int) : Int := if (ofR x).1 = k then (ofR x).2.1 else 0
def typR (x : Int) : Int := if (ofR x).1 = 8 then (ofR x).2.2 else 0
theorem tup_no {k n t : Int} (h : rightB k n t = false) : Ending.returned (.tuple #[.int .u64 0, .bool false]) = Ending.returned (.tuple #[.int .u64 (wordR k n t), .bool (rightB k n t)]) := by
 unfold wordR; rw [h]; rfl
theorem tup_yes {k n t x : Int} (h : rightB k n t = true) (hx : x = wrdB k n t) : Ending.returned (.tuple #[.int .u64 x, .bool true]) = Ending.returned (.tuple #[.int .u64 (wordR k n t), .bool (rightB k n t)]) := by
 unfold wordR; rw [h, hx]; rfl
theorem raw_not {x k : Int} (hk : k ≠ 0) (h : (ofRaw x).1 ≠ k) : (ofR x).1 ≠ k := by
 unfold ofR; split
 ·exact h
 ·exact fun e => hk e.symm
theorem raw_bad {x k : Int} (hk : k ≠ 0) (h : rightB (ofRaw x).1 (ofRaw x).2.1 (ofRaw x).2.2 = false) : (ofR x).1 ≠ k := by
 unfold ofR; rw [h]; exact fun e => hk e.symm
theorem raw_yes {x k n t : Int} (h : ofRaw x = (k, n, t)) (hr : rightB k n t = true) : ofR x = (k, n, t) := by
 unfold ofR; rw [h]; simp only [hr, if_true]
theorem tell_no {x k : Int} (h : (ofR x).1 ≠ k) : Ending.returned (.tuple #[.int .i64 0, .bool false]) = Ending.returned (.tuple #[.int .i64 (hasR k x), .bool (isR k x)]) := by
 unfold hasR isR; rw [if_neg h, decide_eq_false h]
theorem tell_yes {x k n t : Int} (h : ofR x = (k, n, t)) : Ending.returned (.tuple #[.int .i64 n, .bool true]) = Ending.returned (.tuple #[.int .i64 (hasR k x), .bool (isR k x)]) := by
 unfold hasR isR; rw [h]; simp
theorem tellh_no {x : Int} (h : (ofR x).1 ≠ 8) : Ending.returned (.tuple #[.int .i64 0, .int .i64 0, .bool false]) = Ending.returned (.tuple #[.int .i64 (typR x), .int .i64 (hasR 8 x), .bool (isR 8 x)]) := by
 unfold hasR isR typR; rw [if_neg h, if_neg h, decide_eq_false h]
theorem tellh_yes {x n t : Int} (h : ofR x = (8, n, t)) : Ending.returned (.tuple #[.int .i64 t, .int .i64 n, .bool true]) = Ending.returned (.tuple #[.int .i64 (typR x), .int .i64 (hasR 8 x), .bool (isR 8 x)]) := by
 unfold hasR isR typR; rw [h]; simp
theorem raw_kind {x k : Int} (hx : U64 x) (hk : 4 <= k /\ k <= 7) (h : x % 256 ≠ (k + 2) * 8 + 2) : (ofRaw x).1 ≠ k := by
 unfold U64 at hx
 unfold ofRaw
 split
 ·show (1 : Int) ≠ k; omega
 split
 ·show (2 : Int) ≠ k; omega
 split
 ·split
  ·show (3 : Int) ≠ k; omega
  split
  ·show x / 8 % 32 - 2 ≠ k; omega
  ·show (0 : Int) ≠ k; omega
 split
 ·show (8 : Int) ≠ k; omega
 ·show (0 : Int) ≠ k; omega
theorem raw_is {x k : Int} (hx : U64 x) (hk : 4 <= k /\ k <= 7) (h : x % 256 = (k + 2) * 8 + 2) : ofRaw x = (k, x / 256, 0) := by
 unfold U64 at hx
 unfold ofRaw
 rw [if_neg (by omega), if_neg (by omega), if_pos (by omega), if_neg (by omega), if_pos (by omega)]
 have : x / 8 % 32 - 2 = k := by omega
 rw [this]
theorem iscount_any (n : Int) (w : World) : Calls Tryz.prog 190 #[.int .i64 n] w fun e w' => e = .returned (.bool (decide (0 <= n) && decide (n <= 1073741824))) /\ w' = w := by
 by_cases h1 : 0 <= n <;> by_cases h2 : n <= 1073741824 <;>
 ·go_enter Tryz.func190, Tryz.ntmps190
  go_wp2
  go_ret
  exact ⟨by simp [h1, h2], rfl⟩
theorem validrune_any (n : Int) (h1 : 0 <= n) (h2 : n <= 1114111) (w : World) : Calls Tryz.prog 178 #[.int .i32 n] w fun e w' => e = .returned (.bool (decide (n < 55296) || decide (57343 < n))) /\ w' = w := by
 by_cases h3 : n < 55296 <;> by_cases h4 : 57343 < n <;>
 ·go_enter Tryz.func178, Tryz.ntmps178
  go_wp2
  go_ret
  exact ⟨by simp [h3, h4], rfl⟩
theorem isletter_any (n : Int) (w : World) : Calls Tryz.prog 154 #[.int .i64 n] w fun e w' => e = .returned (.bool (ltrB n)) /\ w' = w := by
 unfold ltrB
 by_cases h1 : 0 <= n <;> by_cases h2 : n <= 1114111
 ·have HV := hid (fun w => validrune_any n h1 h2 w)
  go_enter Tryz.func154, Tryz.ntmps154
  go_wp2_with (go_at_call 178; refine (HV.out _).mono ?_; rintro e w9 ⟨rfl, hw9⟩; rw [hw9])
  all_goals go_ret
  all_goals exact ⟨by simp [h1, h2], rfl⟩
 all_goals
 ·go_enter Tryz.func154, Tryz.ntmps154
  go_wp2
  go_ret
  refine ⟨?_, rfl⟩
  first
  | simp [h1]; omega
  | simp [h2]; omega
theorem or_kind {n c : Int} (h0 : 0 <= n) (h1 : n <= 1073741824) (hc : 0 <= c /\ c < 256) : bits .or .u64 (n * 256) c = n * 256 + c := or_low8 (by unfold U64; omega) (by omega) hc
theorem ofkind_any (n c : Int) (h0 : 0 <= n) (h1 : n <= 1073741824) (hc : 0 <= c /\ c < 256) (w : World) : Calls Tryz.prog 155 #[.int .u64 c, .int .i64 n] w fun e w' => e = .returned (.int .u64 (n * 256 + c)) /\ w' = w := by
 have e1 := or_kind h0 h1 hc
 go_enter Tryz.func155, Tryz.ntmps155
 go_wp2
 go_ret
 exact ⟨rfl, rfl⟩
theorem above_any (x c : Int) (hx : U64 x) (w : World) : Calls Tryz.prog 164 #[.int .u64 c, .int .u64 x] w fun e w' => e = .returned (.tuple #[.int .i64 (x / 256), .bool (decide (x % 256 = c))]) /\ w' = w := by
 have e1 := and255w hx
 unfold U64 at hx
 go_enter Tryz.func164, Tryz.ntmps164
 go_wp2
 go_ret2
 exact ⟨rfl, rfl⟩
theorem counted_any (n k c : Int) (hk : k = 5 \/ k = 6 \/ k = 7) (hc : c = (k + 2) * 8 + 2) (w : World) : Calls Tryz.prog 179 #[.int .u64 c, .int .i64 n] w fun e w' => e = .returned (.tuple #[.int .u64 (wordR k n 0), .bool (rightB k n 0)]) /\ w' = w := by
 have HC := hid (fun w => iscount_any n w)
 have hcr : 0 <= c /\ c < 256 := by omega
 have hr : rightB k n 0 = (decide (0 <= n) && decide (n <= 1073741824)) := by
  unfold rightB; rcases hk with rfl | rfl | rfl <;> simp
 have HR := hid hr
 clear hr
 have HCC := hid hc
 have HKK := hid hk
 clear hc hk
 by_cases h1 : 0 <= n <;> by_cases h2 : n <= 1073741824
 ·have HK := hid (fun w => ofkind_any n c h1 h2 hcr w)
  go_enter Tryz.func179, Tryz.ntmps179
  go_wp2_with (first
   | (go_at_call 190; refine (HC.out _).mono ?_; rintro e w9 ⟨rfl, hw9⟩; rw [hw9]; simp only [h1, h2, decide_true, Bool.and_true])
   | (go_at_call 155; refine (HK.out _).mono ?_; rintro e w9 ⟨rfl, hw9⟩; rw [hw9]))
  all_goals go_ret2
  all_goals exact ⟨tup_yes (by rw [HR.out]; simp [h1, h2]) (by have hc := HCC.out; have hk := HKK.out; unfold wrdB; rw [if_neg (by omega), if_neg (by omega), if_neg (by omega), if_neg (by omega)]; omega), rfl⟩
 all_goals
 ·have hf : (decide (0 <= n) && decide (n <= 1073741824)) = false := by simp; omega
  have HF := hid hf
  clear hf
  go_enter Tryz.func179, Tryz.ntmps179
  go_wp2_with (go_at_call 190; refine (HC.out _).mono ?_; rintro e w9 ⟨rfl, hw9⟩; rw [hw9, HF.out])
  all_goals go_ret2
  all_goals exact ⟨tup_no (by rw [HR.out, HF.out]), rfl⟩
theorem countof_any (x k c : Int) (hx : U64 x) (hk : k = 5 \/ k = 6 \/ k = 7) (hc : c = (k + 2) * 8 + 2) (w : World) : Calls Tryz.prog 167 #[.int .u64 c, .int .u64 x] w fun e w' => e = .returned (.tuple #[.int .i64 (hasR k x), .bool (isR k x)]) /\ w' = w := by
 have HA := hid (fun w => above_any x c hx w)
 have HC := hid (fun w => iscount_any (x / 256) w)
 by_cases h1 : x % 256 = c
 ·have hw := raw_is hx (by omega) (h1.trans hc)
  have h0 : 0 <= x / 256 := by unfold U64 at hx; omega
  have HW := hid hw
  clear hw
  have HCC := hid hc
  clear hc
  by_cases h2 : x / 256 <= 1073741824
  ·have hr : rightB k (x / 256) 0 = true := by unfold rightB; rcases hk with rfl | rfl | rfl <;> simp [h0, h2]
   have HR := hid hr
   clear hr
   have HX := hid hx
   have hk0 : k ≠ 0 := by omega
   have HKK := hid hk
   clear hx hk
   generalize x / 256 = y at *
   go_enter Tryz.func167, Tryz.ntmps167
   go_wp2_with (first
   | (go_at_call 164; refine (HA.out _).mono ?_; rintro e w9 ⟨rfl, hw9⟩; rw [hw9, decide_eq_true h1])
   | (go_at_call 190; refine (HC.out _).mono ?_; rintro e w9 ⟨rfl, hw9⟩; rw [hw9]; simp only [h0, h2, decide_true, Bool.and_true]))
   all_goals go_ret2
   all_goals exact ⟨tell_yes (n := y) (raw_yes HW.out HR.out), rfl⟩
  ·have hr : rightB k (x / 256) 0 = false := by unfold rightB; rcases hk with rfl | rfl | rfl <;> simp [h0] <;> omega
   have HR := hid hr
   clear hr
   have hf : (decide (0 <= x / 256) && decide (x / 256 <= 1073741824)) = false := by simp; omega
   have HF := hid hf
   clear hf
   have HX := hid hx
   have hk0 : k ≠ 0 := by omega
   have HKK := hid hk
   clear hx hk
   generalize x / 256 = y at *
   go_enter Tryz.func167, Tryz.ntmps167
   go_wp2_with (first
   | (go_at_call 164; refine (HA.out _).mono ?_; rintro e w9 ⟨rfl, hw9⟩; rw [hw9, decide_eq_true h1])
   | (go_at_call 190; refine (HC.out _).mono ?_; rintro e w9 ⟨rfl, hw9⟩; rw [hw9, HF.out]))
   all_goals go_ret2
   all_goals exact ⟨tell_no (raw_bad hk0 (by rw [HW.out]; exact HR.out)), rfl⟩
 ·have hn := raw_not (x := x) (k := k) (by omega) (raw_kind hx (by omega) (by omega))
  have HN := hid hn
  have HCC := hid hc
  have HKK := hid hk
  clear hn hc hk
  go_enter Tryz.func167, Tryz.ntmps167
  go_wp2_with (go_at_call 164; refine (HA.out _).mono ?_; rintro e w9 ⟨rfl, hw9⟩; rw [hw9, decide_eq_false h1])
  all_goals go_ret2
  all_goals exact ⟨tell_no HN.out, rfl⟩
theorem letterw_any (x : Int) (hx : U64 x) (w : World) : Calls Tryz.prog 140 #[.int .u64 x] w fun e w' => e = .returned (.tuple #[.int .i64 (hasR 4 x), .bool (isR 4 x)]) /\ w' = w := by
 have HA := hid (fun w => above_any x 50 hx w)
 have HC := hid (fun w => isletter_any (x / 256) w)
 by_cases h1 : x % 256 = 50
 ·have hw := raw_is hx (k := 4) (by omega) (by omega)
  have HW := hid hw
  clear hw
  have HX := hid hx
  clear hx
  generalize x / 256 = y at *
  obtain ⟨b, hb⟩ : ∃ b, b = ltrB y := ⟨_, rfl⟩
  rw [<- hb] at HC
  have hr : rightB 4 y 0 = b := by
   unfold rightB; rw [<- hb]
   cases b
   ·simp
   ·have := ltrB_rng hb.symm
    simp; omega
  have HR := hid hr
  clear hr hb
  cases b
  ·go_enter Tryz.func140, Tryz.ntmps140
   go_wp2_with (first
   | (go_at_call 164; refine (HA.out _).mono ?_; rintro e w9 ⟨rfl, hw9⟩; rw [hw9, decide_eq_true h1])
   | (go_at_call 154; refine (HC.out _).mono ?_; rintro e w9 ⟨rfl, hw9⟩; rw [hw9]))
   all_goals go_ret2
   all_goals exact ⟨tell_no (raw_bad (by omega) (by rw [HW.out]; exact HR.out)), rfl⟩
  ·go_enter Tryz.func140, Tryz.ntmps140
   go_wp2_with (first
   | (go_at_call 164; refine (HA.out _).mono ?_; rintro e w9 ⟨rfl, hw9⟩; rw [hw9, decide_eq_true h1])
   | (go_at_call 154; refine (HC.out _).mono ?_; rintro e w9 ⟨rfl, hw9⟩; rw [hw9]))
   all_goals go_ret2
   all_goals exact ⟨tell_yes (raw_yes HW.out HR.out), rfl⟩
 ·have hn := raw_not (x := x) (k := 4) (by omega) (raw_kind hx (by omega) (by omega))
  have HN := hid hn
  clear hn
  go_enter Tryz.func140, Tryz.ntmps140
  go_wp2_with (go_at_call 164; refine (HA.out _).mono ?_; rintro e w9 ⟨rfl, hw9⟩; rw [hw9, decide_eq_false h1])
  all_goals go_ret2
  all_goals exact ⟨tell_no HN.out, rfl⟩
theorem char_any (n : Int) (hn : Z64 n) (w : World) : Calls Tryz.prog 120 #[.int .i64 n] w fun e w' => e = .returned (.tuple #[.int .u64 (wordR 4 n 0), .bool (rightB 4 n 0)]) /\ w' = w := by
 have HC := hid (fun w => isletter_any n w)
 obtain ⟨b, hb⟩ : ∃ b, b = ltrB n := ⟨_, rfl⟩
 rw [<- hb] at HC
 have hr : rightB 4 n 0 = b := by
  unfold rightB; rw [<- hb]
  cases b
  ·simp
  ·have := ltrB_rng hb.symm
   simp; omega
 have HR := hid hr
 cases b
 ·clear hr hb
  go_enter Tryz.func120, Tryz.ntmps120
  go_wp2_with (go_at_call 154; refine (HC.out _).mono ?_; rintro e w9 ⟨rfl, hw9⟩; rw [hw9])
  all_goals go_ret2
  all_goals exact ⟨tup_no HR.out, rfl⟩
 ·have hl := ltrB_rng hb.symm
  clear hr hb
  have HK := hid (fun w => ofkind_any n 50 (by omega) (by omega) (by omega) w)
  go_enter Tryz.func120, Tryz.ntmps120
  go_wp2_with (first
  | (go_at_call 154; refine (HC.out _).mono ?_; rintro e w9 ⟨rfl, hw9⟩; rw [hw9])
  | (go_at_call 155; refine (HK.out _).mono ?_; rintro e w9 ⟨rfl, hw9⟩; rw [hw9]))
  all_goals go_ret2
  all_goals exact ⟨tup_yes HR.out (by simp [wrdB]; omega), rfl⟩
theorem name_any (n : Int) (hn : Z64 n) (w : World) : Calls Tryz.prog 156 #[.int .i64 n] w fun e w' => e = .returned (.tuple #[.int .u64 (wordR 5 n 0), .bool (rightB 5 n 0)]) /\ w' = w := by
 have HC := hid (fun w => counted_any n 5 58 (by omega) (by omega) w)
 go_enter Tryz.func156, Tryz.ntmps156
 go_wp2_with (go_at_call 179; refine (HC.out _).mono ?_; rintro e w9 ⟨rfl, hw9⟩; rw [hw9])
 all_goals go_ret2
 all_goals exact ⟨rfl, rfl⟩
theorem nameof_any (x : Int) (hx : U64 x) (w : World) : Calls Tryz.prog 165 #[.int .u64 x] w fun e w' => e = .returned (.tuple #[.int .i64 (hasR 5 x), .bool (isR 5 x)]) /\ w' = w := by
 have HC := hid (fun w => countof_any x 5 58 hx (by omega) (by omega) w)
 go_enter Tryz.func165, Tryz.ntmps165
 go_wp2_with (go_at_call 167; refine (HC.out _).mono ?_; rintro e w9 ⟨rfl, hw9⟩; rw [hw9])
 all_goals go_ret2
 all_goals exact ⟨rfl, rfl⟩
theorem primof_any (x : Int) (hx : U64 x) (w : World) : Calls Tryz.prog 142 #[.int .u64 x] w fun e w' => e = .returned (.tuple #[.int .i64 (hasR 6 x), .bool (isR 6 x)]) /\ w' = w := by
 have HC := hid (fun w => countof_any x 6 66 hx (by omega) (by omega) w)
 go_enter Tryz.func142, Tryz.ntmps142
 go_wp2_with (go_at_call 167; refine (HC.out _).mono ?_; rintro e w9 ⟨rfl, hw9⟩; rw [hw9])
 all_goals go_ret2
 all_goals exact ⟨rfl, rfl⟩
theorem fix_any (n : Int) (hn : Z64 n) (w : World) : Calls Tryz.prog 177 #[.int .i64 n] w fun e w' => e = .returned (.tuple #[.int .u64 (wordR 1 n 0), .bool (rightB 1 n 0)]) /\ w' = w := by
 unfold Z64 at hn
 by_cases h : -1152921504606846976 <= n /\ n < 1152921504606846976
 ·have hr : Hid (rightB 1 n 0 = true) := by unfold Hid rightB; simp [h.1, h.2]
  have w1 : IntKind.u64.wrap (IntKind.u64.wrap n * 8) = (n * 8) % 18446744073709551616 := by
   rw [IntKind.wrap_u64, IntKind.wrap_u64]; omega
  have e0 : bits .or .u64 ((n * 8) % 18446744073709551616) 0 = (n * 8) % 18446744073709551616 := by
   have := or_low3 (x := (n * 8) % 18446744073709551616) (b := 0) (by unfold U64; omega) (by omega) (by omega)
   rw [this]; exact Int.add_zero _
  go_enter Tryz.func177, Tryz.ntmps177
  go_wp2
  all_goals go_ret2
  all_goals exact ⟨tup_yes hr.out (by first | rfl | (show bits .or .u64 (IntKind.u64.wrap (IntKind.u64.wrap n * 8)) 0 = (n * 8) % 18446744073709551616; rw [w1, e0]) | (show bits .or .u64 ((n * 8) % 18446744073709551616) 0 = (n * 8) % 18446744073709551616; rw [e0])), rfl⟩
 ·have hr : Hid (rightB 1 n 0 = false) := by unfold Hid rightB; simp; omega
  go_enter Tryz.func177, Tryz.ntmps177
  go_wp2
  all_goals go_ret2
  all_goals first
  | exact ⟨tup_no hr.out, rfl⟩
  | (exfalso; omega)
theorem ptr_any (n : Int) (hn : Z64 n) (w : World) : Calls Tryz.prog 108 #[.int .i64 n] w fun e w' => e = .returned (.tuple #[.int .u64 (wordR 2 n 0), .bool (rightB 2 n 0)]) /\ w' = w := by
 unfold Z64 at hn
 by_cases h : 0 <= n /\ n <= 1099511627776
 ·have hr : Hid (rightB 2 n 0 = true) := by unfold Hid rightB; simp [h.1, h.2]
  have e0 : bits .or .u64 (n * 8) 1 = n * 8 + 1 := or_low3 (by unfold U64; omega) (by omega) (by omega)
  obtain ⟨h1, h2⟩ := h
  go_enter Tryz.func108, Tryz.ntmps108
  go_wp2
  all_goals go_ret2
  all_goals first
  | exact ⟨tup_yes hr.out rfl, rfl⟩
  | (exfalso; omega)
 ·have hr : Hid (rightB 2 n 0 = false) := by unfold Hid rightB; simp; omega
  go_enter Tryz.func108, Tryz.ntmps108
  go_wp2
  all_goals go_ret2
  all_goals first
  | exact ⟨tup_no hr.out, rfl⟩
  | (exfalso; omega)
theorem head_any (n t : Int) (hn : Z64 n) (ht : Z64 t) (w : World) : Calls Tryz.prog 113 #[.int .i64 t, .int .i64 n] w fun e w' => e = .returned (.tuple #[.int .u64 (wordR 8 n t), .bool (rightB 8 n t)]) /\ w' = w := by
 unfold Z64 at hn ht
 by_cases h : (1 <= t /\ t <= 255) /\ 0 <= n /\ n <= 1099511627776
 ·have hr : Hid (rightB 8 n t = true) := by unfold Hid rightB; simp [h.1.1, h.1.2, h.2.1, h.2.2]
  have e0 : bits .or .u64 (n * 2048) (t * 8) = n * 2048 + t * 8 := or_low11 (by unfold U64; omega) (by omega) (by omega)
  have e1 : bits .or .u64 (n * 2048 + t * 8) 7 = n * 2048 + t * 8 + 7 := or_low3 (by unfold U64; omega) (by omega) (by omega)
  obtain ⟨⟨h1, h2⟩, h3, h4⟩ := h
  go_enter Tryz.func113, Tryz.ntmps113
  go_wp2
  all_goals go_ret2
  all_goals first
  | exact ⟨tup_yes hr.out rfl, rfl⟩
  | (exfalso; omega)
 ·have hr : Hid (rightB 8 n t = false) := by unfold Hid rightB; simp; omega
  go_enter Tryz.func113, Tryz.ntmps113
  go_wp2
  all_goals go_ret2
  all_goals first
  | exact ⟨tup_no hr.out, rfl⟩
  | (exfalso; omega)
theorem int_any (x : Int) (hx : U64 x) (w : World) : Calls Tryz.prog 138 #[.int .u64 x] w fun e w' => e = .returned (.tuple #[.int .i64 (hasR 1 x), .bool (isR 1 x)]) /\ w' = w := by
 have e0 := and7 hx
 unfold U64 at hx
 by_cases h : x % 8 = 0
 ·have e1 : wrap64 x / 8 = sgnW x / 8 := by unfold wrap64 sgnW; split <;> omega
  have ho : Hid (ofR x = (1, wrap64 x / 8, 0)) := by
   refine raw_yes (by unfold ofRaw; rw [if_pos h, e1]) ?_
   unfold rightB; rw [e1]; unfold sgnW
   simp; split <;> omega
  clear e1
  go_enter Tryz.func138, Tryz.ntmps138
  go_wp2
  all_goals go_ret2
  all_goals exact ⟨tell_yes ho.out, rfl⟩
 ·have ho : Hid ((ofR x).1 ≠ 1) := by
   refine raw_not (by decide) ?_
   unfold ofRaw; rw [if_neg h]
   split
   ·exact (by decide : (2 : Int) ≠ 1)
   split
   ·split
    ·exact (by decide : (3 : Int) ≠ 1)
    split
    ·show x / 8 % 32 - 2 ≠ 1; omega
    ·exact (by decide : (0 : Int) ≠ 1)
   split
   ·exact (by decide : (8 : Int) ≠ 1)
   ·exact (by decide : (0 : Int) ≠ 1)
  go_enter Tryz.func138, Tryz.ntmps138
  go_wp2
  all_goals go_ret2
  all_goals exact ⟨tell_no ho.out, rfl⟩
theorem at_any (x : Int) (hx : U64 x) (w : World) : Calls Tryz.prog 104 #[.int .u64 x] w fun e w' => e = .returned (.tuple #[.int .i64 (hasR 2 x), .bool (isR 2 x)]) /\ w' = w := by
 have e0 := and7 hx
 unfold U64 at hx
 by_cases h : x % 8 = 1
 ·have hw : Hid (ofRaw x = (2, x / 8, 0)) := by unfold Hid ofRaw; rw [if_neg (by omega), if_pos h]
  by_cases h2 : x / 8 <= 1099511627776
  ·have ho : Hid (ofR x = (2, x / 8, 0)) := raw_yes hw.out (by unfold rightB; simp; omega)
   go_enter Tryz.func104, Tryz.ntmps104
   go_wp2
   all_goals go_ret2
   all_goals first
   | exact ⟨tell_yes ho.out, rfl⟩
   | (exfalso; omega)
  ·have ho : Hid ((ofR x).1 ≠ 2) := raw_bad (by decide) (by rw [hw.out]; unfold rightB; simp; omega)
   go_enter Tryz.func104, Tryz.ntmps104
   go_wp2
   all_goals go_ret2
   all_goals first
   | exact ⟨tell_no ho.out, rfl⟩
   | (exfalso; omega)
 ·have ho : Hid ((ofR x).1 ≠ 2) := by
   refine raw_not (by decide) ?_
   unfold ofRaw
   split
   ·exact (by decide : (1 : Int) ≠ 2)
   split
   ·split
    ·exact (by decide : (3 : Int) ≠ 2)
    split
    ·show x / 8 % 32 - 2 ≠ 2; omega
    ·exact (by decide : (0 : Int) ≠ 2)
   split
   ·exact (by decide : (8 : Int) ≠ 2)
   ·exact (by decide : (0 : Int) ≠ 2)
  go_enter Tryz.func104, Tryz.ntmps104
  go_wp2
  all_goals go_ret2
  all_goals exact ⟨tell_no ho.out, rfl⟩
theorem headof_any (x : Int) (hx : U64 x) (w : World) : Calls Tryz.prog 112 #[.int .u64 x] w fun e w' => e = .returned (.tuple #[.int .i64 (typR x), .int .i64 (hasR 8 x), .bool (isR 8 x)]) /\ w' = w := by
 have e0 := and7 hx
 have e1 := and255w (x := x / 8) (by unfold U64 at hx ⊢; omega)
 unfold U64 at hx
 by_cases h : x % 8 = 7
 ·have hw : Hid (ofRaw x = (8, x / 2048, x / 8 % 256)) := by unfold Hid ofRaw; rw [if_neg (by omega), if_neg (by omega), if_neg (by omega), if_pos h]
  by_cases h2 : 1 <= x / 8 % 256 /\ x / 2048 <= 1099511627776
  ·have ho : Hid (ofR x = (8, x / 2048, x / 8 % 256)) := raw_yes hw.out (by unfold rightB; simp; omega)
   obtain ⟨h3, h4⟩ := h2
   go_enter Tryz.func112, Tryz.ntmps112
   go_wp2
   all_goals go_ret3
   all_goals first
   | exact ⟨tellh_yes ho.out, rfl⟩
   | (exfalso; omega)
  ·have ho : Hid ((ofR x).1 ≠ 8) := raw_bad (by decide) (by rw [hw.out]; unfold rightB; simp; omega)
   go_enter Tryz.func112, Tryz.ntmps112
   go_wp2
   all_goals go_ret3
   all_goals first
   | exact ⟨tellh_no ho.out, rfl⟩
   | (exfalso; omega)
 ·have ho : Hid ((ofR x).1 ≠ 8) := by
   refine raw_not (by decide) ?_
   unfold ofRaw
   split
   ·exact (by decide : (1 : Int) ≠ 8)
   split
   ·exact (by decide : (2 : Int) ≠ 8)
   split
   ·split
    ·exact (by decide : (3 : Int) ≠ 8)
    split
    ·show x / 8 % 32 - 2 ≠ 8; omega
    ·exact (by decide : (0 : Int) ≠ 8)
   exact (by decide : (0 : Int) ≠ 8)
  go_enter Tryz.func112, Tryz.ntmps112
  go_wp2
  all_goals go_ret3
  all_goals exact ⟨tellh_no ho.out, rfl⟩
theorem bool_any (b : Bool) (w : World) : Calls Tryz.prog 118 #[.bool b] w fun e w' => e = .returned (.int .u64 (if b then 18 else 10)) /\ w' = w := by
 cases b <;>
 ·go_enter Tryz.func118, Tryz.ntmps118
  go_wp2
  go_ret
  exact ⟨rfl, rfl⟩
end Go.Proofs.YtadfihnffboelaaGreatDoor
