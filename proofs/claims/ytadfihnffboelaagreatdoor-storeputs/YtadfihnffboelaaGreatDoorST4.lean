import Derived.Test.YtadfihnffboelaaGreatDoorG3
import Derived.Test.YtadfihnffboelaaGreatDoorW41
import Derived.Test.YtadfihnffboelaaGreatDoorX1
import Derived.Test.YtadfihnffboelaaGreatDoorW13
import Derived.Test.YtadfihnffboelaaGreatDoorW43
import Derived.Test.YtadfihnffboelaaGreatDoorW40
import Derived.Test.YtadfihnffboelaaGreatDoorV4
set_option linter.unusedVariables false
set_option linter.unusedSimpArgs false
namespace Go.Proofs.YtadfihnffboelaaGreatDoor
open Go.RowKit
def digs : Nat -> Nat -> List Nat
 | 0, _ => []
 | f + 1, v => if v = 0 then [] else (v % 10) :: digs f (v / 10)
theorem fx : ∀ f v, v <= f -> Dg 10 (digs f v) /\ Tr (digs f v) /\ val 10 (digs f v) = v /\ (v ≠ 0 -> digs f v ≠ [])
 | 0, v, h => by
  obtain rfl : v = 0 := by omega
  exact ⟨Dg.nil _, Tr.nil, rfl, fun h => absurd rfl h⟩
 | f + 1, v, h => by
  by_cases hv : v = 0
  ·subst hv; simp [digs, val]; exact ⟨Dg.nil _, Tr.nil⟩
  ·obtain ⟨h1, h2, h3, h4⟩ := fx f (v / 10) (by omega)
   have e : digs (f + 1) v = (v % 10) :: digs f (v / 10) := by simp [digs, hv]
   rw [e]
   refine ⟨fun x hx => ?_, .inr ?_, ?_, fun _ => by simp⟩
   ·rcases List.mem_cons.1 hx with rfl | hx
    ·omega
    ·exact h1 x hx
   ·by_cases h0 : v / 10 = 0
    ·have : digs f (v / 10) = [] := by rw [h0]; cases f <;> simp [digs]
     rw [this]; simp; omega
    ·have hne := h4 h0
     have := h2.resolve_left hne
     obtain ⟨n, hn⟩ : ∃ n, (digs f (v / 10)).length = n + 1 := ⟨(digs f (v / 10)).length - 1, by have := List.length_pos_iff.2 hne; omega⟩
     rw [List.length_cons, hn]
     rw [hn] at this
     simpa using this
   ·rw [qw, h3]; omega
def j7 (neg : Bool) (v : Nat) : List Nat := if digs v v = [] then [48] else (if neg then [45] else []) ++ ((digs v v).map chr).reverse
theorem zlo.is {neg : Bool} {v : Nat} {s : ByteArray} {en : Int} (h : zlo neg v 10 s en) : bs s = j7 neg v /\ en = 0 := by
 rcases h with ⟨a, _⟩ | ⟨_, he, D, d1, d2, d3, d4⟩
 ·exact absurd ⟨by omega, by omega⟩ a
 ·obtain ⟨k1, k2, k3, _⟩ := fx v v (Nat.le_refl _)
  have hD : D = digs v v := x6 (B := 10) (by omega) d1 k1 d2 k2 (by rw [k3]; exact d3)
  subst hD
  exact ⟨d4, he⟩
def zz (t : ByteArray) : Bool := jl 10 (cutS (bs t)).2 && decide (hv 10 (cutS (bs t)).2 < B32 ^ 40) && decide (bs t = j7 ((cutS (bs t)).1 && decide (hv 10 (cutS (bs t)).2 ≠ 0)) (hv 10 (cutS (bs t)).2))
theorem zhf {w : World} {x : Value} {en : Int} {neg : Bool} {v : Nat} (h : Ans w x en neg v) : (¬ Big v /\ en = 0 /\ ∃ ao n cap l, x = .agg #[.bool (neg && decide (v ≠ 0)), .slice ao n cap] /\ Row .u32 B32 w ao n cap l /\ qa (neg && decide (v ≠ 0)) l = true /\ val B32 l = v /\ n <= 40) \/ (Big v /\ en = 10) := by
 rcases h with ⟨h1, h2, l, ⟨ao, n, cap, h3, R⟩, h4, h5⟩ | ⟨h1, h2, _⟩
 ·refine .inl ⟨h1, h2, ao, n, cap, l, ?_, R, ?_, h5, ?_⟩
  ·rw [h3]
   have e0 : (neg && decide (l ≠ [])) = (neg && decide (v ≠ 0)) := ?_
   ·rw [e0]
   rw [Bool.eq_iff_iff]
   have := h4.zero_iff (B := B32) (by decide)
   rw [h5] at this
   simp only [Bool.and_eq_true, decide_eq_true_eq, ne_eq]
   have e2 : l.length = 0 ↔ l = [] := List.length_eq_zero_iff
   rw [this, e2]
  ·have hl := (fm R.dg h4).2 (by rw [h5]; exact h1)
   refine zvs h4 hl fun h0 => ?_
   have := (h4.zero_iff (B := B32) (by decide)).2 h0
   rw [h5] at this
   simp [this]
  ·rw [<- R.len]; exact (fm R.dg h4).2 (by rw [h5]; exact h1)
 ·exact .inr ⟨h1, h2⟩
theorem Ans.form' {w : World} {x : Value} {en : Int} {neg : Bool} {v : Nat} (h : Ans w x en neg v) : ∃ s ao n cap l, x = .agg #[.bool s, .slice ao n cap] /\ Row .u32 B32 w ao n cap l /\ True := by
 rcases h with ⟨_, _, l, ⟨ao, n, cap, h3, R⟩, _⟩ | ⟨_, _, h⟩
 ·exact ⟨_, ao, n, cap, l, h3, R, trivial⟩
 ·exact ⟨false, none, 0, 0, [], h, Row.nil _ _ _ _, trivial⟩
theorem zgc (s t : ByteArray) : (s.toList == t.toList) = decide (s = t) := by
 rw [Bool.eq_iff_iff, beq_iff_eq, decide_eq_true_eq]
 constructor
 ·intro h
  rw [Lib.toList_data, Lib.toList_data] at h
  obtain ⟨a⟩ := s
  obtain ⟨b⟩ := t
  exact congrArg ByteArray.mk (Array.toList_inj.1 h)
 ·rintro rfl; rfl
set_option maxHeartbeats 1000000 in
theorem zhg (t : ByteArray) (w : World) (ht : t.size <= maxLen) : Calls Tryz.prog 170 #[.string t] w fun e w' => e = .returned (.bool (zz t)) /\ Below w.heap.size w w' := by
 go_enter Tryz.func170, Tryz.ntmps170
 go_wp2_with fail
 refine (zje t 10 _ ht).mono ?_
 rintro e w1 ⟨x, en, rfl, b1, hP⟩
 rcases hP with ⟨h, _⟩ | ⟨_, hd, rfl, rfl⟩ | ⟨_, hd, hA⟩
 ·exact absurd ⟨by omega, by omega⟩ h
 ·go_wp2
  go_ret
  refine ⟨?_, Bt b1 (Ba _ _)⟩
  unfold zz; rw [hd]; rfl
 ·rcases zhf hA with ⟨hb, rfl, ao, n, cap, l, rfl, R, g, hv_, hn⟩ | ⟨hb, rfl⟩
  ·have b2 := Ba w1 (.cells #[.bool ((cutS (bs t)).1 && decide (hv (10 : Int).toNat (cutS (bs t)).2 ≠ 0)), .slice ao n cap] 134)
   have R2 := hid (R.below b2)
   have G2 := hid g
   have HB := hid (Bt b1 b2)
   have HD := hid hd
   have HV := hid hv_
   have HBG := hid hb
   obtain ⟨sg, hsg⟩ : ∃ sg, sg = ((cutS (bs t)).1 && decide (hv (10 : Int).toNat (cutS (bs t)).2 ≠ 0)) := ⟨_, rfl⟩
   rw [<- hsg] at R2 G2 HB b2 ⊢
   have HSG := hid hsg
   clear R g hA hd hv_ hb b1 b2 hsg
   go_wp2_with fail
   generalize w1.alloc (.cells #[.bool sg, .slice ao n cap] 134) = w2 at *
   refine (zji sg ao n cap l 10 w2 R2.out G2.out).mono ?_
   rintro e w3 ⟨s, en, rfl, hpr, b3⟩
   obtain ⟨hbs, rfl⟩ := hpr.is
   have HB3 := hid (Bt HB.out b3)
   have HE : Hid (decide (s = t) = zz t) := by
    unfold Hid zz
    rw [HV.out, HSG.out] at hbs
    have e10 : (10 : Int).toNat = 10 := rfl
    rw [e10] at hbs
    have hnb : hv 10 (cutS (bs t)).2 < B32 ^ 40 := by have := HBG.out; unfold Big at this; rw [e10] at this; omega
    rw [HD.out, <- hbs]
    simp only [Bool.true_and, hnb, decide_true]
    rw [Bool.eq_iff_iff, decide_eq_true_eq, decide_eq_true_eq]
    exact ⟨fun h => by rw [h], fun h => zrp h.symm⟩
   clear hpr hbs b3
   go_wp2
   go_ret
   refine ⟨?_, HB3.out⟩
   rw [<- HE.out]
   exact congrArg (fun z => Ending.returned (.bool z)) (zgc s t)
  ·have HB := hid b1
   have hp : Hid (zz t = false) := by
    unfold Hid zz
    have hnb : ¬ hv 10 (cutS (bs t)).2 < B32 ^ 40 := by unfold Big at hb; have e10 : (10 : Int).toNat = 10 := rfl; rw [e10] at hb; omega
    simp only [hnb, decide_false, Bool.and_false, Bool.false_and]
   obtain ⟨sx, ax, nx, cx, lx, rfl, _, _⟩ := hA.form'
   clear hA hb hd b1
   go_wp2
   go_ret
   exact ⟨by rw [hp.out]; rfl, Bt HB.out (Ba _ _)⟩
def fixB (z : Int) : Bool := decide (-1152921504606846976 <= z) && decide (z < 1152921504606846976)
def nK (x : Int) : Int := (ofR x).1
def nN (x : Int) : Int := (ofR x).2.1
def xo (x : Int) : Bool := decide (nK x = 1) && (decide (0 <= nN x) && decide (nN x < 4294967296))
def vv (l : List Int) : Bool := decide (nN (l.getD 0 0) = 1)
def qt (l : List Int) : List Nat := (l.drop 1).map (fun y => (nN y).toNat)
def bigB (l : List Int) : Bool := decide (0 < l.length) && (l.all xo && (decide (nN (l.getD 0 0) <= 1) && (qa (vv l) (qt l) && !fixB (sgn (vv l) (val B32 (qt l))))))
def byB (x : Int) : Bool := decide (nK x = 1) && (decide (0 <= nN x) && decide (nN x <= 255))
def lrB (x : Int) : Bool := decide (nK x = 4)
def byT (l : List Int) : List Nat := l.map (fun x => (nN x).toNat)
def lrT (l : List Int) : List Nat := l.flatMap (fun x => bs (Utf8.encode (nN x)))
def yj : Nd := ⟨11, 0, ByteArray.empty, []⟩
set_option maxRecDepth 100000
def mgF : Nat -> Nat -> List Nat
 | 0, _ => []
 | f + 1, v => if v = 0 then [] else (v % B32) :: mgF f (v / B32)
def mg (v : Nat) : List Nat := mgF v v
theorem zse : ∀ f v, v <= f -> Dg B32 (mgF f v) /\ Tr (mgF f v) /\ val B32 (mgF f v) = v /\ (v ≠ 0 -> mgF f v ≠ [])
 | 0, v, h => by
  obtain rfl : v = 0 := by omega
  exact ⟨Dg.nil _, Tr.nil, rfl, fun h => absurd rfl h⟩
 | f + 1, v, h => by
  have hB : B32 = 4294967296 := rfl
  by_cases hv : v = 0
  ·subst hv; simp [mgF, val]; exact ⟨Dg.nil _, Tr.nil⟩
  ·obtain ⟨h1, h2, h3, h4⟩ := zse f (v / B32) (by rw [hB]; omega)
   have e : mgF (f + 1) v = (v % B32) :: mgF f (v / B32) := by simp [mgF, hv]
   rw [e]
   refine ⟨fun x hx => ?_, .inr ?_, ?_, fun _ => by simp⟩
   ·rcases List.mem_cons.1 hx with rfl | hx
    ·rw [hB]; omega
    ·exact h1 x hx
   ·by_cases h0 : v / B32 = 0
    ·have : mgF f (v / B32) = [] := by rw [h0]; cases f <;> simp [mgF]
     rw [this]; simp; rw [hB] at h0 ⊢; omega
    ·have hne := h4 h0
     have := h2.resolve_left hne
     obtain ⟨n, hn⟩ : ∃ n, (mgF f (v / B32)).length = n + 1 := ⟨(mgF f (v / B32)).length - 1, by have := List.length_pos_iff.2 hne; omega⟩
     rw [List.length_cons, hn]
     rw [hn] at this
     simpa using this
   ·rw [qw, h3, hB]; omega
theorem zcl1 {l : List Nat} {v : Nat} (hd : Dg B32 l) (ht : Tr l) (hv : val B32 l = v) : l = mg v := by
 obtain ⟨h1, h2, h3, _⟩ := zse v v (Nat.le_refl _)
 exact x6 (by decide) hd h1 ht h2 (hv.trans h3.symm)
def zbe (z : Int) (w : World) (e : Ending) (w' : World) : Prop := ∃ v, e = .returned (.tuple #[.int .i64 v, .bool (fixB z)]) /\ (fixB z = true -> v = z) /\ Below w.heap.size w w'
theorem zjn (neg : Bool) (ao : Option Addr) (n cap : Nat) (l : List Nat) (w : World) (R : Row .u32 B32 w ao n cap l) (g : qa neg l = true) :
  Calls Tryz.prog 78 #[.agg #[.bool neg, .slice ao n cap]] w fun e w' => zbe (sgn neg (val B32 l)) w e w' := by
 have b0 := Ba w (.cells #[.bool neg, .slice ao n cap] 134)
 have C := hid (zzr neg ao n cap l (w.alloc (.cells #[.bool neg, .slice ao n cap] 134)) (R.below b0) g)
 unfold zfx at C
 have hx := zd w #[.bool neg, .slice ao n cap] 134
 have c0 : (w.alloc (.cells #[.bool neg, .slice ao n cap] 134)).cell? ⟨w.heap.size, 0, none⟩ = some (.bool neg) := za hx 0
 have c1 : (w.alloc (.cells #[.bool neg, .slice ao n cap] 134)).cell? ⟨w.heap.size, 1, none⟩ = some (.slice ao n cap) := za hx 1
 have HB := hid b0
 obtain ⟨z, hz⟩ : ∃ z, z = sgn neg (val B32 l) := ⟨_, rfl⟩
 rw [<- hz] at C ⊢
 clear R g hx b0 hz
 by_cases hf : fits z = true
 ·rw [hf] at C
  obtain ⟨h1, h2⟩ := of_decide_eq_true hf
  clear hf
  by_cases k1 : -1152921504606846976 <= z
  ·by_cases k2 : z < 1152921504606846976
   ·have HFX : Hid (fixB z = true) := by unfold Hid fixB; rw [decide_eq_true k1, decide_eq_true k2]; rfl
    go_enter Tryz.func78, Tryz.ntmps78
    go_wp2_with (go_at_call 126; (with_reducible refine C.out.mono ?_); rintro e W1 ⟨v, rfl, hv, b1⟩; rw [hv rfl]; have HB1 := hid (Bt HB.out b1); clear b1 hv)
    go_ret2
    unfold zbe; rw [HFX.out]; exact ⟨_, rfl, fun _ => rfl, HB1.out⟩
   ·have HFX : Hid (fixB z = false) := by unfold Hid fixB; rw [decide_eq_false k2]; simp
    have k2d : decide (z < 1152921504606846976) = false := decide_eq_false k2
    go_enter Tryz.func78, Tryz.ntmps78
    go_wp2_with (go_at_call 126; (with_reducible refine C.out.mono ?_); rintro e W1 ⟨v, rfl, hv, b1⟩; rw [hv rfl]; have HB1 := hid (Bt HB.out b1); clear b1 hv)
    go_ret2
    unfold zbe; rw [HFX.out]; exact ⟨_, rfl, fun h => (by cases h), HB1.out⟩
  ·have HFX : Hid (fixB z = false) := by unfold Hid fixB; rw [decide_eq_false k1]; simp
   have k1d : decide (-1152921504606846976 <= z) = false := decide_eq_false k1
   go_enter Tryz.func78, Tryz.ntmps78
   go_wp2_with (go_at_call 126; (with_reducible refine C.out.mono ?_); rintro e W1 ⟨v, rfl, hv, b1⟩; rw [hv rfl]; have HB1 := hid (Bt HB.out b1); clear b1 hv)
   go_ret2
   unfold zbe; rw [HFX.out]; exact ⟨_, rfl, fun h => (by cases h), HB1.out⟩
 ·have hf' : fits z = false := by simpa using hf
  rw [hf'] at C
  have HFX : Hid (fixB z = false) := by
   unfold Hid fixB
   have := of_decide_eq_false hf'
   by_cases k1 : -1152921504606846976 <= z
   ·rw [decide_eq_true k1, decide_eq_false (by omega)]; rfl
   ·rw [decide_eq_false k1]; rfl
  clear hf hf'
  go_enter Tryz.func78, Tryz.ntmps78
  go_wp2_with (go_at_call 126; (with_reducible refine C.out.mono ?_); rintro e W1 ⟨v, rfl, hv, b1⟩; have HB1 := hid (Bt HB.out b1); clear b1 hv)
  go_ret2
  unfold zbe; rw [HFX.out]; exact ⟨_, rfl, fun h => (by cases h), HB1.out⟩
def txZ (t : ByteArray) : Int := sgn ((cutS (bs t)).1 && decide (hv 10 (cutS (bs t)).2 ≠ 0)) (hv 10 (cutS (bs t)).2)
theorem zel (t : ByteArray) (ht : t.size <= 5000) (hp : zz t = true) (w : World) : Calls Tryz.prog 77 #[.string t, .int .i64 10] w fun e w' => ∃ neg ao n cap l, e = .returned (.tuple #[.agg #[.bool neg, .slice ao n cap], .int .i64 0]) /\ Row .u32 B32 w' ao n cap l /\ qa neg l = true /\ sgn neg (val B32 l) = txZ t /\ l = mg (txZ t).natAbs /\ n <= 40 /\ Below w.heap.size w w' := by
 refine (zgb t 10 w ht).mono ?_
 rintro e w' ⟨x, en, rfl, hb, h⟩
 unfold zz at hp
 simp only [Bool.and_eq_true, decide_eq_true_eq] at hp
 obtain ⟨⟨p1, p2⟩, p3⟩ := hp
 rcases h with ⟨h1, _⟩ | ⟨_, h2, _⟩ | ⟨_, _, h⟩
 ·exact absurd ⟨by omega, by omega⟩ h1
 ·rw [p1] at h2; cases h2
 ·rcases zhf h with ⟨a1, a2, ao, n, cap, l, rfl, R, g, hvl, hn⟩ | ⟨a1, _⟩
  ·subst a2
   have hv' : val B32 l = hv 10 (cutS (bs t)).2 := hvl
   refine ⟨_, ao, n, cap, l, rfl, R, g, ?_, ?_, hn, hb⟩
   ·unfold txZ; rw [hv']; rfl
   ·refine zcl1 R.dg (xh g) ?_
    unfold txZ; rw [show ∀ (b : Bool) (v : Nat), (sgn b v).natAbs = v from fun b v => by cases b <;> simp [sgn]]; exact hv'
  ·exact absurd p2 (by unfold Big at a1; show ¬ hv 10 (cutS (bs t)).2 < B32 ^ 40; exact Nat.not_lt.2 a1)
def ku (d : Nd) (ka : Option Addr) (kc : Nat) : Value := .agg #[.int .i64 d.kind, .int .i64 d.num, .string d.text, .slice ka d.kids.length kc]
def zm (d : Nd) : Int :=
 if d.kind = 1 \/ d.kind = 2 \/ d.kind = 4 \/ d.kind = 6 \/ d.kind = 10 \/ d.kind = 11 then (0 : Int)
 else if d.kind = 3 then (if fixB (txZ d.text) = true then 0 else 2 + (((mg (txZ d.text).natAbs).length : Nat) : Int))
 else if d.kind = 5 then 1 + (((ltrs d.text).length : Nat) : Int)
 else if d.kind = 7 \/ d.kind = 8 then 1 + ((d.kids.length : Nat) : Int)
 else if d.kind = 9 then 1 + ((d.text.size : Nat) : Int) else (-1 : Int)
theorem jm {w : World} {base : Nat} {e : TypeId} {k : Nat} {v : Value} {n : Nat} {xs : List Value} (h : w.ownsRow base e k v n xs) : ∃ a c, v = .slice a n c /\ n <= c /\ c <= 9223372036854775807 := by
 rcases h.2 with ⟨e1, e2⟩ | ⟨g, cap, cur, e1, _, _, h4, h5, _⟩
 ·subst e2; exact ⟨none, 0, e1, Nat.le_refl _, by omega⟩
 ·unfold maxLen at h5; exact ⟨_, _, e1, h4, h5⟩
set_option maxHeartbeats 4000000 in
theorem zhh (d : Nd) (ka : Option Addr) (kc : Nat) (w : World) (hkd : I64 d.kind) (htx : d.text.size <= 5000) (hkk : d.kids.length <= kc) (hkc : kc <= 9223372036854775807) (hks : d.kids.length <= 1000000) (hp : d.kind = 3 -> zz d.text = true) :
  Calls Tryz.prog 41 #[ku d ka kc] w fun e w' => e = .returned (.int .i64 (zm d)) /\ Below w.heap.size w w' := by
 have HB := hid (Ba w (.cells #[.int .i64 d.kind, .int .i64 d.num, .string d.text, .slice ka d.kids.length kc] 68))
 have hx := zd w #[.int .i64 d.kind, .int .i64 d.num, .string d.text, .slice ka d.kids.length kc] 68
 have HX := hid hx
 have HSZ : Hid (zm d = if d.kind = 1 \/ d.kind = 2 \/ d.kind = 4 \/ d.kind = 6 \/ d.kind = 10 \/ d.kind = 11 then (0 : Int)
  else if d.kind = 3 then (if fixB (txZ d.text) = true then 0 else 2 + (((mg (txZ d.text).natAbs).length : Nat) : Int))
  else if d.kind = 5 then 1 + (((ltrs d.text).length : Nat) : Int)
  else if d.kind = 7 \/ d.kind = 8 then 1 + ((d.kids.length : Nat) : Int)
  else if d.kind = 9 then 1 + ((d.text.size : Nat) : Int) else (-1 : Int)) := rfl
 have HP := hid hp
 unfold ku
 obtain ⟨dk, dn, dt, dl⟩ := d
 simp only at HB HX HSZ HP htx hkk hks hkd hx ⊢
 have c0 : (w.alloc (.cells #[.int .i64 dk, .int .i64 dn, .string dt, .slice ka dl.length kc] 68)).cell? ⟨w.heap.size, 0, none⟩ = some (.int .i64 dk) := za hx 0
 have c2 : (w.alloc (.cells #[.int .i64 dk, .int .i64 dn, .string dt, .slice ka dl.length kc] 68)).cell? ⟨w.heap.size, 2, none⟩ = some (.string dt) := za hx 2
 have c3 : (w.alloc (.cells #[.int .i64 dk, .int .i64 dn, .string dt, .slice ka dl.length kc] 68)).cell? ⟨w.heap.size, 3, none⟩ = some (.slice ka dl.length kc) := za hx 3
 obtain ⟨kn, hkn⟩ : ∃ n, n = dl.length := ⟨_, rfl⟩
 rw [<- hkn] at HB HX HSZ c0 c2 c3 hkk hks ⊢
 clear hx hp hkn
 by_cases k1 : dk = 1
 ·subst k1
  have he : Hid (zm ⟨1, dn, dt, dl⟩ = 0) := HSZ.out.trans (if_pos (by omega))
  go_enter Tryz.func41, Tryz.ntmps41
  go_wp2_with fail
  go_ret
  rw [he.out]
  exact ⟨rfl, HB.out⟩
 by_cases k2 : dk = 2
 ·subst k2
  have he : Hid (zm ⟨2, dn, dt, dl⟩ = 0) := HSZ.out.trans (if_pos (by omega))
  go_enter Tryz.func41, Tryz.ntmps41
  go_wp2_with fail
  go_ret
  rw [he.out]
  exact ⟨rfl, HB.out⟩
 by_cases k4 : dk = 4
 ·subst k4
  have he : Hid (zm ⟨4, dn, dt, dl⟩ = 0) := HSZ.out.trans (if_pos (by omega))
  go_enter Tryz.func41, Tryz.ntmps41
  go_wp2_with fail
  go_ret
  rw [he.out]
  exact ⟨rfl, HB.out⟩
 by_cases k6 : dk = 6
 ·subst k6
  have he : Hid (zm ⟨6, dn, dt, dl⟩ = 0) := HSZ.out.trans (if_pos (by omega))
  go_enter Tryz.func41, Tryz.ntmps41
  go_wp2_with fail
  go_ret
  rw [he.out]
  exact ⟨rfl, HB.out⟩
 by_cases k10 : dk = 10
 ·subst k10
  have he : Hid (zm ⟨10, dn, dt, dl⟩ = 0) := HSZ.out.trans (if_pos (by omega))
  go_enter Tryz.func41, Tryz.ntmps41
  go_wp2_with fail
  go_ret
  rw [he.out]
  exact ⟨rfl, HB.out⟩
 by_cases k11 : dk = 11
 ·subst k11
  have he : Hid (zm ⟨11, dn, dt, dl⟩ = 0) := HSZ.out.trans (if_pos (by omega))
  go_enter Tryz.func41, Tryz.ntmps41
  go_wp2_with fail
  go_ret
  rw [he.out]
  exact ⟨rfl, HB.out⟩
 rw [if_neg (by omega)] at HSZ
 by_cases k3 : dk = 3
 ·subst k3
  rw [if_pos rfl] at HSZ
  have CP := hid (zel dt htx (HP.out rfl) (w.alloc (.cells #[.int .i64 3, .int .i64 dn, .string dt, .slice ka kn kc] 68)))
  go_enter Tryz.func41, Tryz.ntmps41
  go_wp2_with (go_at_call 77; (with_reducible refine CP.out.mono ?_); rintro e W1 ⟨neg, ao, n, cap, l, rfl, R, g, hz, hl, hn, b1⟩; have HB1 := hid (Bt HB.out b1); have HB2 := hid (Ba W1 (.cells #[.bool neg, .slice ao n cap] 134)); have hxi := zd W1 #[.bool neg, .slice ao n cap] 134; have HXI := hid hxi; have i0 : (W1.alloc (.cells #[.bool neg, .slice ao n cap] 134)).cell? ⟨W1.heap.size, 0, none⟩ = some (.bool neg) := za hxi 0; have i1 : (W1.alloc (.cells #[.bool neg, .slice ao n cap] 134)).cell? ⟨W1.heap.size, 1, none⟩ = some (.slice ao n cap) := za hxi 1; have CF := hid (zjn neg ao n cap l (W1.alloc (.cells #[.bool neg, .slice ao n cap] 134)) (R.below HB2.out) g); rw [hz] at CF; unfold zbe at CF; have hnl := R.len; rw [hl] at hnl; have HNL := hid hnl; have hnc := R.fits; have hnm := R.most; clear R g hz hl b1 hxi hnl)
  have HBX : Hid (∀ W2, Below (W1.alloc (.cells #[.bool neg, .slice ao n cap] 134)).heap.size (W1.alloc (.cells #[.bool neg, .slice ao n cap] 134)) W2 -> W2.cell? ⟨W1.heap.size, 1, none⟩ = some (.slice ao n cap)) := fun W2 b => za ((b.block W1.heap.size (by rw [zb]; omega)).trans HXI.out) 1
  unfold maxLen at hnm
  have HW : Hid (Below w.heap.size w (W1.alloc (.cells #[.bool neg, .slice ao n cap] 134))) := Bt HB1.out HB2.out
  obtain ⟨fb, hfb⟩ : ∃ b, b = fixB (txZ dt) := ⟨_, rfl⟩
  rw [<- hfb] at CF HSZ
  clear hfb
  cases fb
  ·rw [if_neg (by simp)] at HSZ
   go_wp2_with (go_at_call 78; (with_reducible refine CF.out.mono ?_); rintro e W2 ⟨v, rfl, _, b2⟩; have d1 := HBX.out W2 b2; have HB3 := hid (Bt HW.out b2); clear b2)
   go_ret
   rw [HSZ.out, HNL.out]
   exact ⟨rfl, HB3.out⟩
  ·rw [if_pos rfl] at HSZ
   go_wp2_with (go_at_call 78; (with_reducible refine CF.out.mono ?_); rintro e W2 ⟨v, rfl, _, b2⟩; have HB3 := hid (Bt HW.out b2); clear b2)
   go_ret
   rw [HSZ.out]
   exact ⟨rfl, HB3.out⟩
 rw [if_neg k3] at HSZ
 by_cases k5 : dk = 5
 ·subst k5
  rw [if_pos rfl] at HSZ
  have CL := hid (zej dt (by omega) (w.alloc (.cells #[.int .i64 5, .int .i64 dn, .string dt, .slice ka kn kc] 68)))
  have hll := zbz dt
  obtain ⟨n, hn⟩ : ∃ n, n = (ltrs dt).length := ⟨_, rfl⟩
  rw [<- hn] at CL HSZ hll
  clear hn
  go_enter Tryz.func41, Tryz.ntmps41
  go_wp2_with (go_at_call 79; (with_reducible refine CL.out.mono ?_); rintro e W1 ⟨v, rfl, hv, b1⟩; obtain ⟨av, cv, rfl, hvf, hvm⟩ := jm hv; have HB1 := hid (Bt HB.out b1); clear hv b1)
  go_ret
  rw [HSZ.out]
  exact ⟨rfl, HB1.out⟩
 rw [if_neg k5] at HSZ
 by_cases k7 : dk = 7
 ·subst k7
  rw [if_pos (by omega)] at HSZ
  go_enter Tryz.func41, Tryz.ntmps41
  go_wp2_with fail
  go_ret
  rw [HSZ.out]
  exact ⟨rfl, HB.out⟩
 by_cases k8 : dk = 8
 ·subst k8
  rw [if_pos (by omega)] at HSZ
  go_enter Tryz.func41, Tryz.ntmps41
  go_wp2_with fail
  go_ret
  rw [HSZ.out]
  exact ⟨rfl, HB.out⟩
 rw [if_neg (by omega)] at HSZ
 by_cases k9 : dk = 9
 ·subst k9
  rw [if_pos rfl] at HSZ
  go_enter Tryz.func41, Tryz.ntmps41
  go_wp2_with fail
  go_ret
  rw [HSZ.out]
  exact ⟨rfl, HB.out⟩
 rw [if_neg k9] at HSZ
 have e1 : (dk == 1) = false := by simpa using k1
 have e2 : (dk == 2) = false := by simpa using k2
 have e3 : (dk == 3) = false := by simpa using k3
 have e4 : (dk == 4) = false := by simpa using k4
 have e5 : (dk == 5) = false := by simpa using k5
 have e6 : (dk == 6) = false := by simpa using k6
 have e7 : (dk == 7) = false := by simpa using k7
 have e8 : (dk == 8) = false := by simpa using k8
 have e9 : (dk == 9) = false := by simpa using k9
 have e10 : (dk == 10) = false := by simpa using k10
 have e11 : (dk == 11) = false := by simpa using k11
 clear k1 k2 k3 k4 k5 k6 k7 k8 k9 k10 k11
 go_enter Tryz.func41, Tryz.ntmps41
 go_wp2_with fail
 go_ret
 rw [HSZ.out]
 exact ⟨rfl, HB.out⟩
set_option maxHeartbeats 4000000 in
theorem zwi (n : Int) (hn : Z64 n) (w : World) :
  Calls Tryz.prog 11 #[.int .i64 n] w fun e w' => if n < 1 \/ 4194304 < n then e = .returned (.tuple #[.pointer none, .int .i64 1]) /\ w' = w else ∃ g, e = .returned (.tuple #[.pointer (some ⟨g, 0, none⟩), .int .i64 0]) /\ w.heap.size <= g /\ RH w.heap.size g n (.slice none 0 0) [] w' /\ Below w.heap.size w w' := by
 unfold Z64 at hn
 by_cases hb : n < 1 \/ 4194304 < n
 ·simp only [if_pos hb]
  go_enter Tryz.func11, Tryz.ntmps11
  go_wp2
  all_goals first
   | omega
   | (go_ret2; exact ⟨rfl, rfl⟩)
 ·simp only [if_neg hb]
  have HE : Hid (RH w.heap.size w.heap.size n (.slice none 0 0) [] (w.alloc (.cells #[.int .i64 n, .slice none 0 0] 77))) :=
   ⟨zd _ _ _, World.ownsRow_nil _ _ _ _, fun x hx => (by cases hx), List.Pairwise.nil, fun x hx => (by cases hx), (by intro e; cases e), Nat.le_refl _, fun x hx => (by cases hx), fun x hx => (by cases hx), ⟨by simp [zg]; omega, by omega⟩⟩
  go_enter Tryz.func11, Tryz.ntmps11
  go_wp2
  all_goals first
   | omega
   | (go_ret2; exact ⟨_, rfl, Nat.le_refl _, HE.out, Ba _ _⟩)
theorem appU {P : Program} {w : World} {ops : Array Oper} {rest : List Oper} {o : Oper} {a : Act} {Q : Exit -> Act -> World -> Prop} (hgd : o.guard = none) (s x : Operand) (t : TypeId) (ho : o.op = .call { callee := .builtin .append, args := #[s, x], argTypes := #[t, t] })
  (base : Nat) (e : TypeId) (ht : P.underlying t = some (.slice e)) (hi : (P.info? e).map (fun i => (i.zero, i.size, i.bytes)) = some (some (.int .u64 0), 1, 8))
  (v : Value) (n : Nat) (l : List Int) (hs : a.eval s = v) (hown : w.ownsRow base e 1 v n (uz l))
  (ao : Option Addr) (m c : Nat) (r : List Int) (hx : a.eval x = .slice ao m c) (hr : URow w ao m c r) (hsm : n + m <= 1099511627776) (hbase : base <= w.heap.size)
  (h : ∀ v' w', w'.ownsRow base e 1 v' (n + m) (uz (l ++ r)) -> w.grownBy w' v.ownBlock -> wpList P ops Q rest (a.put o.dst v') w') : wpList P ops Q (o :: rest) a w :=
 wpList_plain hgd fun K hK => by
  have := zzv (P := P) (w := w) (ops := ops) (o := o) (a := a) (K := K) (Q := Q) (E := False) o.dst rfl hgd s x t ho base e ht hi v n l hs hown ao m c r hx hr hsm hbase (fun v' w' h1 h2 => hK _ _ (h v' w' h1 h2))
  have hw : Region.wanted o (yielded ops a.tmps) = true := by simp [Region.wanted, hgd]
  rw [if_pos hw] at this
  exact this
theorem jx {w : World} {g : Nat} {z : Int} {t : TypeId} (h : w.heap[g]? = some (.cells #[.int .u64 z] t (0, 0))) (hz : U64 z) : URow w (some ⟨g, 0, none⟩) 1 1 [z] :=
 ⟨rfl, Nat.le_refl _, by unfold maxLen; omega, fun e => (by cases e), fun y hy => by simp at hy; rw [hy]; exact hz, .inr ⟨g, 0, rfl, (Array.getElem?_eq_some_iff.1 h).1, fun i hi => by
  have : i = 0 := by simpa using hi
  subst this
  exact za h 0⟩⟩
theorem q9 {w : World} {B : Nat} {e : TypeId} {v : Value} {l : List Int} (h : w.ownsRow B e 1 v l.length (uz l)) (hb : ∀ z ∈ l, U64 z) : ∃ ao cap, v = .slice ao l.length cap /\ URow w ao l.length cap l := by
 rcases h.2 with ⟨rfl, h0⟩ | ⟨g, cap, cur, rfl, h2, h3, h4, h5, h6, h7⟩
 ·have : l = [] := List.length_eq_zero_iff.1 h0
  subst this
  exact ⟨none, 0, rfl, rfl, Nat.le_refl _, by unfold maxLen; omega, fun _ => rfl, hb, .inl rfl⟩
 ·refine ⟨some ⟨g, 0, none⟩, cap, rfl, rfl, h4, h5, fun e => (by cases e), hb, .inr ⟨g, 0, rfl, (Array.getElem?_eq_some_iff.1 h3).1, fun i hi => ?_⟩⟩
  rw [Nat.zero_add, za h3]
  have : cur[i]? = (uz l)[i]? := by rw [<- h7, List.getElem?_take, if_pos (by omega)]; simp
  rw [this, zeg hi]
def bigL (neg : Bool) (l : List Nat) : List Int := zj 1 (if neg then 1 else 0) 0 :: l.map (fun x => zj 1 (x : Nat) 0)
theorem zca (neg : Bool) {l : List Nat} {q : Nat} (h : q < l.length) : bigL neg (l.take (q + 1)) = bigL neg (l.take q) ++ [zj 1 (l.getD q 0 : Nat) 0] := by
 unfold bigL
 rw [List.take_succ_eq_append_getElem h, List.map_append, List.cons_append, List.getD_eq_getElem?_getD, List.getElem?_eq_getElem h]; rfl
theorem zhi (neg : Bool) (l : List Nat) : (bigL neg l).length = l.length + 1 := by simp [bigL]
theorem zyt (neg : Bool) (l : List Nat) : ∀ z ∈ bigL neg l, U64 z := by
 intro z hz
 unfold bigL at hz
 rcases List.mem_cons.1 hz with rfl | hz
 ·exact zv _ _ _
 ·obtain ⟨x, _, rfl⟩ := List.mem_map.1 hz; exact zv _ _ _
theorem zsf {w W : World} {z : Int} (hb : Below w.heap.size w W) : (W.alloc (.cells #[.int .u64 z] 70)).ownsRow w.heap.size 70 1 (.slice (some ⟨W.heap.size, 0, none⟩) 1 1) 1 (uz [z]) :=
 ⟨rfl, .inr ⟨W.heap.size, 1, #[.int .u64 z], rfl, hb.size, zd _ _ _, Nat.le_refl _, by unfold maxLen; omega, rfl, rfl⟩⟩
set_option maxHeartbeats 4000000 in
theorem zzx (neg : Bool) (ao : Option Addr) (n cap : Nat) (l : List Nat) (w : World) (R : Row .u32 B32 w ao n cap l) (hn : n <= 1000) :
  Calls Tryz.prog 82 #[.agg #[.bool neg, .slice ao n cap]] w fun e w' => ∃ v, e = .returned v /\ w'.ownsRow w.heap.size 70 1 v (n + 1) (uz (bigL neg l)) /\ Below w.heap.size w w' := by
 have HR := hid R
 have hln := R.len
 have hf := R.fits
 have hm := R.most
 unfold maxLen at hm
 have b0 := Ba w (.cells #[.bool neg, .slice ao n cap] 134)
 have HB0 := hid b0
 have hx := zd w #[.bool neg, .slice ao n cap] 134
 have HX := hid hx
 have HC : Hid (∀ W, Below (w.alloc (.cells #[.bool neg, .slice ao n cap] 134)).heap.size (w.alloc (.cells #[.bool neg, .slice ao n cap] 134)) W -> W.cell? ⟨w.heap.size, 0, none⟩ = some (.bool neg) /\ W.cell? ⟨w.heap.size, 1, none⟩ = some (.slice ao n cap) /\ Below w.heap.size w W) := fun W b => by
  have e := (b.block w.heap.size (by rw [zb]; omega)).trans HX.out
  exact ⟨za e 0, za e 1, Bt HB0.out b⟩
 have CW : Hid (∀ x : Nat, x < 4294967296 -> ∀ W, Calls Tryz.prog 80 #[.int .i64 1, .int .i64 (x : Nat)] W fun e w' => e = .returned (.int .u64 (zj 1 (x : Nat) 0)) /\ Below W.heap.size W w') := fun x hx W => qn 1 x (by unfold Z64; omega) (by unfold Z64; omega) W
 have CW0 := hid (CW.out 0 (by omega))
 have CW1 := hid (CW.out 1 (by omega))
 obtain ⟨z0, hz0⟩ : ∃ z, z = zj 1 ((0 : Nat) : Int) 0 := ⟨_, rfl⟩
 obtain ⟨z1, hz1⟩ : ∃ z, z = zj 1 ((1 : Nat) : Int) 0 := ⟨_, rfl⟩
 rw [<- hz0] at CW0
 rw [<- hz1] at CW1
 have HBG : Hid (bigL neg [] = [if neg then z1 else z0]) := by
  unfold Hid bigL
  cases neg
  ·simp [hz0]
  ·simp [hz1]
 obtain ⟨W0, hW0⟩ : ∃ W, W = w.alloc (.cells #[.bool neg, .slice ao n cap] 134) := ⟨_, rfl⟩
 have HW0 := hid hW0
 rw [<- hW0] at HC
 clear R b0 hx hz0 hz1
 have c0 := (HC.out W0 (Below.refl _ _)).1
 rw [hW0] at c0
 have fin : Hid (∀ (v : Value) (wr : World) (q : Nat), wr.ownsRow W0.heap.size 70 1 v (q + 1) (uz (bigL neg (l.take q))) -> Below W0.heap.size W0 wr -> q = n -> wr.ownsRow w.heap.size 70 1 v (n + 1) (uz (bigL neg l)) /\ Below w.heap.size w wr) := fun v wr q h1 h2 e => by
  subst e
  rw [List.take_of_length_le (by omega)] at h1
  exact ⟨xi h1 (by rw [HW0.out, zb]; omega), (HC.out wr h2).2.2⟩
 have hone : Hid (∀ (W : World) (z : Int), Below W0.heap.size W0 W -> (W.alloc (.cells #[.int .u64 z] 70)).ownsRow W0.heap.size 70 1 (.slice (some ⟨W.heap.size, 0, none⟩) 1 1) 1 (uz [z])) := fun W z hb => zsf hb
 have HRW : Hid (∀ W, Below W0.heap.size W0 W -> Row .u32 B32 W ao n cap l) := fun W b => HR.out.below (HC.out W b).2.2
 cases neg
 ·have eW : Hid (w.alloc (.cells #[.bool false, .slice ao n cap] 134) = W0) := HW0.out.symm
  go_enter Tryz.func82, Tryz.ntmps82
  go_wp2_with fail
  rw [eW.out]
  go_wp2_with (go_at_call 80; (refine (CW0.out W0).mono ?_); rintro e W1 ⟨rfl, b1⟩; have HB1 := hid b1; obtain ⟨e0, e1, _⟩ := HC.out (W1.alloc (.cells #[.int .u64 z0] 70)) (Bt b1 (Ba _ _)); clear b1)
  have HBSTART : Hid (Below W0.heap.size W0 (W1.alloc (.cells #[.int .u64 z0] 70))) := Bt HB1.out (Ba _ _)
  have HSTART : Hid ((W1.alloc (.cells #[.int .u64 z0] 70)).ownsRow W0.heap.size 70 1 (.slice (some ⟨W1.heap.size, 0, none⟩) 1 1) (0 + 1) (uz (bigL false (l.take 0)))) := by
   unfold Hid
   rw [List.take_zero, HBG.out]
   exact hone.out W1 z0 HB1.out
  clear e0 e1
  go_loopw [3, 4] (fun v i wr => ∃ q : Nat, q <= n /\ i = .int .i64 q /\ Hid (wr.ownsRow W0.heap.size 70 1 v (q + 1) (uz (bigL false (l.take q))) /\ Below W0.heap.size W0 wr)) (fun _ i _ => n - (intOf i).toNat)
  case atStart => exact ⟨0, Nat.zero_le _, rfl, HSTART.out, HBSTART.out⟩
  case round =>
   obtain ⟨q, hq, rfl, hI⟩ := hrel
   obtain ⟨_, d1, _⟩ := HC.out wr hI.out.2
   have HOQ := hid hI.out.1
   have HBQ := hid hI.out.2
   clear hI
   by_cases hlt : q < n
   ·obtain ⟨b, o, rfl, hlb, hcc⟩ := (HRW.out wr HBQ.out).rd.some (by omega)
    have hck := hcc q (by omega)
    have hxb : l.getD q 0 < B32 := by rw [List.getD_eq_getElem?_getD, List.getElem?_eq_getElem (by omega)]; exact HR.out.dg _ (List.getElem_mem _)
    have C1 := hid (CW.out (l.getD q 0) hxb wr)
    have HT := hid (zca false (l := l) (q := q) (by omega))
    obtain ⟨x, hx⟩ : ∃ x, x = l.getD q 0 := ⟨_, rfl⟩
    rw [<- hx] at hck C1 HT hxb
    have hxb' : x < 4294967296 := hxb
    obtain ⟨zx, hzx⟩ : ∃ z, z = zj 1 ((x : Nat) : Int) 0 := ⟨_, rfl⟩
    have hzu : Hid (U64 zx) := by unfold Hid; rw [hzx]; exact zv _ _ _
    rw [<- hzx] at C1 HT
    clear hcc hx hzx hxb
    go_wp2_with (first
     | (go_at_call 80; (with_reducible refine C1.out.mono ?_); rintro e W1 ⟨rfl, b1⟩; have HB1 := hid (b1.mono HBQ.out.size); have HBW1 := hid (HBQ.out.trans HB1.out); have HO1 := hid (jc (jc HOQ.out b1) (Ba W1 (.cells #[.int .u64 zx] 70))); have HU1 := hid (jx (zd W1 #[.int .u64 zx] 70) hzu.out); have HBA := hid (HBW1.out.trans ((Ba W1 (.cells #[.int .u64 zx] 70)).mono HBW1.out.size)); have HSA := hid HBA.out.size; clear b1)
     | (at_builtin; refine appU rfl _ _ 42 rfl W0.heap.size 70 Tryz.underlying42 ym _ (q + 1) (bigL false (l.take q)) rfl HO1.out (some ⟨W1.heap.size, 0, none⟩) 1 1 [zx] rfl HU1.out (by omega) HSA.out ?_; intro v2 w2 ho2 hg2))
    have HE : Hid (Below W0.heap.size W0 w2) := HBA.out.grown hg2 HSA.out (fun b hb => (HO1.out.lt b hb).1)
    refine ⟨⟨q + 1, by omega, by go_num, ?_, HE.out⟩, by simp [intOf] <;> omega⟩
    rw [HT.out]; exact ho2
   ·obtain rfl : q = n := by omega
    go_wp2_with fail
    go_ret
    obtain ⟨f1, f2⟩ := fin.out _ _ _ HOQ.out HBQ.out rfl
    exact ⟨_, rfl, f1, f2⟩
 ·have eW : Hid (w.alloc (.cells #[.bool true, .slice ao n cap] 134) = W0) := HW0.out.symm
  go_enter Tryz.func82, Tryz.ntmps82
  go_wp2_with fail
  rw [eW.out]
  refine (CW0.out W0).mono ?_
  rintro e W1 ⟨rfl, b1⟩
  have HB1 := hid b1
  have HBA := hid (Bt b1 (Ba W1 (.cells #[.int .u64 z0] 70)))
  obtain ⟨e0, e1, _⟩ := HC.out (W1.alloc (.cells #[.int .u64 z0] 70)) HBA.out
  have C2 := hid (CW1.out (W1.alloc (.cells #[.int .u64 z0] 70)))
  have hx1 := zd W1 #[.int .u64 z0] 70
  have HX1 := hid hx1
  have hs1 : Hid (W1.heap.size < (W1.alloc (.cells #[.int .u64 z0] 70)).heap.size) := by unfold Hid; rw [zb]; omega
  clear b1 hx1
  go_wp2_with (go_at_call 80; (refine C2.out.mono ?_); rintro e W2 ⟨rfl, b2⟩; have hx2 := (b2.block W1.heap.size hs1.out).trans HX1.out; have HX2 := hid hx2; have q0 : W2.cell? ⟨W1.heap.size, 0, none⟩ = some (.int .u64 z0) := za hx2 0; have f0 := zf hx2 0; have HB2 := hid (HBA.out.trans (b2.mono HBA.out.size)); clear b2 hx2)
  have HBSTART : Hid (Below W0.heap.size W0 (W2.setCell ⟨W1.heap.size, 0, none⟩ (.int .u64 z1))) := HB2.out.setCell (p := ⟨W1.heap.size, 0, none⟩) HB1.out.size _
  have HSTART : Hid ((W2.setCell ⟨W1.heap.size, 0, none⟩ (.int .u64 z1)).ownsRow W0.heap.size 70 1 (.slice (some ⟨W1.heap.size, 0, none⟩) 1 1) (0 + 1) (uz (bigL true (l.take 0)))) := by
   unfold Hid
   rw [List.take_zero, HBG.out]
   refine ⟨rfl, .inr ⟨W1.heap.size, 1, #[.int .u64 z1], rfl, HB1.out.size, ?_, Nat.le_refl _, by unfold maxLen; omega, rfl, rfl⟩⟩
   rw [zy (i := 0) HX2.out]; rfl
  clear q0 f0 e0 e1
  go_loopw [3, 4] (fun v i wr => ∃ q : Nat, q <= n /\ i = .int .i64 q /\ Hid (wr.ownsRow W0.heap.size 70 1 v (q + 1) (uz (bigL true (l.take q))) /\ Below W0.heap.size W0 wr)) (fun _ i _ => n - (intOf i).toNat)
  case atStart => exact ⟨0, Nat.zero_le _, rfl, HSTART.out, HBSTART.out⟩
  case round =>
   obtain ⟨q, hq, rfl, hI⟩ := hrel
   obtain ⟨_, d1, _⟩ := HC.out wr hI.out.2
   have HOQ := hid hI.out.1
   have HBQ := hid hI.out.2
   clear hI
   by_cases hlt : q < n
   ·obtain ⟨b, o, rfl, hlb, hcc⟩ := (HRW.out wr HBQ.out).rd.some (by omega)
    have hck := hcc q (by omega)
    have hxb : l.getD q 0 < B32 := by rw [List.getD_eq_getElem?_getD, List.getElem?_eq_getElem (by omega)]; exact HR.out.dg _ (List.getElem_mem _)
    have C1 := hid (CW.out (l.getD q 0) hxb wr)
    have HT := hid (zca true (l := l) (q := q) (by omega))
    obtain ⟨x, hx⟩ : ∃ x, x = l.getD q 0 := ⟨_, rfl⟩
    rw [<- hx] at hck C1 HT hxb
    have hxb' : x < 4294967296 := hxb
    obtain ⟨zx, hzx⟩ : ∃ z, z = zj 1 ((x : Nat) : Int) 0 := ⟨_, rfl⟩
    have hzu : Hid (U64 zx) := by unfold Hid; rw [hzx]; exact zv _ _ _
    rw [<- hzx] at C1 HT
    clear hcc hx hzx hxb
    go_wp2_with (first
     | (go_at_call 80; (with_reducible refine C1.out.mono ?_); rintro e W1 ⟨rfl, b1⟩; have HB1 := hid (b1.mono HBQ.out.size); have HBW1 := hid (HBQ.out.trans HB1.out); have HO1 := hid (jc (jc HOQ.out b1) (Ba W1 (.cells #[.int .u64 zx] 70))); have HU1 := hid (jx (zd W1 #[.int .u64 zx] 70) hzu.out); have HBA := hid (HBW1.out.trans ((Ba W1 (.cells #[.int .u64 zx] 70)).mono HBW1.out.size)); have HSA := hid HBA.out.size; clear b1)
     | (at_builtin; refine appU rfl _ _ 42 rfl W0.heap.size 70 Tryz.underlying42 ym _ (q + 1) (bigL true (l.take q)) rfl HO1.out (some ⟨W1.heap.size, 0, none⟩) 1 1 [zx] rfl HU1.out (by omega) HSA.out ?_; intro v2 w2 ho2 hg2))
    have HE : Hid (Below W0.heap.size W0 w2) := HBA.out.grown hg2 HSA.out (fun b hb => (HO1.out.lt b hb).1)
    refine ⟨⟨q + 1, by omega, by go_num, ?_, HE.out⟩, by simp [intOf] <;> omega⟩
    rw [HT.out]; exact ho2
   ·obtain rfl : q = n := by omega
    go_wp2_with fail
    go_ret
    obtain ⟨f1, f2⟩ := fin.out _ _ _ HOQ.out HBQ.out rfl
    exact ⟨_, rfl, f1, f2⟩
end Go.Proofs.YtadfihnffboelaaGreatDoor
