import Derived.Test.YticimejfjjmikaaGreatDoorQ1
import Derived.Test.YticimejfjjmikaaGreatDoorW41
import Derived.Lib.ValidLaws
import Derived.Lib.RuneCount
import Derived.Laws.BitsAllLaws
set_option linter.unusedVariables false
set_option linter.unusedSimpArgs false
namespace Go.Proofs.YticimejfjjmikaaGreatDoor
open Go.RowKit
def digs : Nat -> Nat -> List Nat
 | 0,_=>[]
 | f + 1,v=>if v = 0 then [] else (v % 10) :: digs f (v / 10)
theorem digs_ok : ∀ f v,v <= f -> Dg 10 (digs f v) /\ Tr (digs f v) /\ val 10 (digs f v) = v /\ (v ≠ 0 -> digs f v ≠ [])
 | 0,v,h=>by
  obtain rfl : v = 0:=by omega
  exact ⟨Dg.nil _,Tr.nil,rfl,fun h=>absurd rfl h⟩
 | f + 1, v, h => by
  by_cases hv : v = 0
  ·subst hv;simp [digs,val];exact ⟨Dg.nil _,Tr.nil⟩
  ·obtain ⟨h1, h2, h3, h4⟩ := digs_ok f (v / 10) (by omega)
   have e : digs (f + 1) v = (v % 10) :: digs f (v / 10):=by simp [digs,hv]
   rw [e]
   refine ⟨fun x hx=>?_,.inr ?_,?_,fun _=>by simp⟩
   ·rcases List.mem_cons.1 hx with rfl | hx
    ·omega
    ·exact h1 x hx
   ·by_cases h0 : v / 10 = 0
    ·have : digs f (v / 10) = [] := by rw [h0]; cases f <;> simp [digs]
     rw [this];simp;omega
    ·have hne := h4 h0
     have:=h2.resolve_left hne
     obtain ⟨n,hn⟩ : ∃ n,(digs f (v / 10)).length = n + 1:=⟨(digs f (v / 10)).length - 1,by have:=List.length_pos_iff.2 hne;omega⟩
     rw [List.length_cons,hn]
     rw [hn] at this
     simpa using this
   ·rw [val_cons,h3];omega
def printL (neg : Bool) (v : Nat) : List Nat:=if digs v v = [] then [48] else (if neg then [45] else []) ++ ((digs v v).map chr).reverse
theorem Printed.is {neg : Bool} {v : Nat} {s : ByteArray} {en : Int} (h : Printed neg v 10 s en) : bs s = printL neg v /\ en = 0:=by
 rcases h with ⟨a,_⟩ | ⟨_,he,D,d1,d2,d3,d4⟩
 ·exact absurd ⟨by omega,by omega⟩ a
 ·obtain ⟨k1, k2, k3, _⟩ := digs_ok v v (Nat.le_refl _)
  have hD : D = digs v v:=digits_unique (B:=10) (by omega) d1 k1 d2 k2 (by rw [k3];exact d3)
  subst hD
  exact ⟨d4,he⟩
def printedB (t : ByteArray) : Bool:=digitsB 10 (cutS (bs t)).2 && decide (hv 10 (cutS (bs t)).2 < B32 ^ 40) && decide (bs t = printL ((cutS (bs t)).1 && decide (hv 10 (cutS (bs t)).2 ≠ 0)) (hv 10 (cutS (bs t)).2))
theorem ans_int {w : World} {x : Value} {en : Int} {neg : Bool} {v : Nat} (h : Ans w x en neg v) : (¬ Big v /\ en = 0 /\ ∃ ao n cap l,x = .agg #[.bool (neg && decide (v ≠ 0)),.slice ao n cap] /\ Row .u32 B32 w ao n cap l /\ goodB (neg && decide (v ≠ 0)) l = true /\ val B32 l = v /\ n <= 40) \/ (Big v /\ en = 10):=by
 rcases h with ⟨h1,h2,l,⟨ao,n,cap,h3,R⟩,h4,h5⟩ | ⟨h1,h2,_⟩
 ·refine .inl ⟨h1, h2, ao, n, cap, l, ?_, R, ?_, h5, ?_⟩
  ·rw [h3]
   have e0 : (neg && decide (l ≠ [])) = (neg && decide (v ≠ 0)):=?_
   ·rw [e0]
   rw [Bool.eq_iff_iff]
   have:=h4.zero_iff (B:=B32) (by decide)
   rw [h5] at this
   simp only [Bool.and_eq_true,decide_eq_true_eq,ne_eq]
   have e2 : l.length = 0 ↔ l = []:=List.length_eq_zero_iff
   rw [this,e2]
  ·have hl := (small_len R.dg h4).2 (by rw [h5]; exact h1)
   refine goodB_mk h4 hl fun h0=>?_
   have:=(h4.zero_iff (B:=B32) (by decide)).2 h0
   rw [h5] at this
   simp [this]
  ·rw [<- R.len];exact (small_len R.dg h4).2 (by rw [h5];exact h1)
 ·exact .inr ⟨h1,h2⟩
theorem Ans.form' {w : World} {x : Value} {en : Int} {neg : Bool} {v : Nat} (h : Ans w x en neg v) : ∃ s ao n cap l,x = .agg #[.bool s,.slice ao n cap] /\ Row .u32 B32 w ao n cap l /\ True:=by
 rcases h with ⟨_,_,l,⟨ao,n,cap,h3,R⟩,_⟩ | ⟨_,_,h⟩
 ·exact ⟨_,ao,n,cap,l,h3,R,trivial⟩
 ·exact ⟨false,none,0,0,[],h,Row.nil _ _ _ _,trivial⟩
theorem str_eq (s t : ByteArray) : (s.toList == t.toList) = decide (s = t):=by
 rw [Bool.eq_iff_iff,beq_iff_eq,decide_eq_true_eq]
 constructor
 ·intro h
  rw [Lib.toList_data,Lib.toList_data] at h
  obtain ⟨a⟩:=s
  obtain ⟨b⟩:=t
  exact congrArg ByteArray.mk (Array.toList_inj.1 h)
 ·rintro rfl;rfl
set_option maxHeartbeats 1000000 in
theorem isPrinted_any (t : ByteArray) (w : World) (ht : t.size <= maxLen) : Calls Tryz.prog 196 #[.string t] w fun e w'=>e = .returned (.bool (printedB t)) /\ Below w.heap.size w w':=by
 go_enter Tryz.func196,Tryz.ntmps196
 go_wp2_with fail
 refine (parse_any t 10 _ ht).mono ?_
 rintro e w1 ⟨x,en,rfl,b1,hP⟩
 rcases hP with ⟨h,_⟩ | ⟨_,hd,rfl,rfl⟩ | ⟨_,hd,hA⟩
 ·exact absurd ⟨by omega,by omega⟩ h
 ·go_wp2
  go_ret
  refine ⟨?_,Bt b1 (Ba _ _)⟩
  unfold printedB;rw [hd];rfl
 ·rcases ans_int hA with ⟨hb, rfl, ao, n, cap, l, rfl, R, g, hv_, hn⟩ | ⟨hb, rfl⟩
  ·have b2 := Ba w1 (.cells #[.bool ((cutS (bs t)).1 && decide (hv (10 : Int).toNat (cutS (bs t)).2 ≠ 0)), .slice ao n cap] 104)
   have R2:=hid (R.below b2)
   have G2:=hid g
   have HB:=hid (Bt b1 b2)
   have HD:=hid hd
   have HV:=hid hv_
   have HBG:=hid hb
   obtain ⟨sg,hsg⟩ : ∃ sg,sg = ((cutS (bs t)).1 && decide (hv (10 : Int).toNat (cutS (bs t)).2 ≠ 0)):=⟨_,rfl⟩
   rw [<- hsg] at R2 G2 HB b2 ⊢
   have HSG:=hid hsg
   clear R g hA hd hv_ hb b1 b2 hsg
   go_wp2_with fail
   generalize w1.alloc (.cells #[.bool sg,.slice ao n cap] 104) = w2 at *
   refine (print_all sg ao n cap l 10 w2 R2.out G2.out).mono ?_
   rintro e w3 ⟨s,en,rfl,hpr,b3⟩
   obtain ⟨hbs,rfl⟩:=hpr.is
   have HB3:=hid (Bt HB.out b3)
   have HE : Hid (decide (s = t) = printedB t):=by
    unfold Hid printedB
    rw [HV.out,HSG.out] at hbs
    have e10 : (10 : Int).toNat = 10:=rfl
    rw [e10] at hbs
    have hnb : hv 10 (cutS (bs t)).2 < B32 ^ 40:=by have:=HBG.out;unfold Big at this;rw [e10] at this;omega
    rw [HD.out,<- hbs]
    simp only [Bool.true_and,hnb,decide_true]
    rw [Bool.eq_iff_iff,decide_eq_true_eq,decide_eq_true_eq]
    exact ⟨fun h=>by rw [h],fun h=>bs_ext h.symm⟩
   clear hpr hbs b3
   go_wp2
   go_ret
   refine ⟨?_,HB3.out⟩
   rw [<- HE.out]
   exact congrArg (fun z=>Ending.returned (.bool z)) (str_eq s t)
  ·have HB := hid b1
   have hp : Hid (printedB t = false):=by
    unfold Hid printedB
    have hnb : ¬ hv 10 (cutS (bs t)).2 < B32 ^ 40:=by unfold Big at hb;have e10 : (10 : Int).toNat = 10:=rfl;rw [e10] at hb;omega
    simp only [hnb,decide_false,Bool.and_false,Bool.false_and]
   obtain ⟨sx,ax,nx,cx,lx,rfl,_,_⟩:=hA.form'
   clear hA hb hd b1
   go_wp2
   go_ret
   exact ⟨by rw [hp.out];rfl,Bt HB.out (Ba _ _)⟩
def letB (n : Int) : Bool:=decide (0 <= n) && decide (n <= 1114111) && (decide (n < 55296) || decide (57343 < n))
theorem letB_valid (n : Int) : letB n = Utf8.valid n:=by
 unfold letB Utf8.valid
 rw [Bool.eq_iff_iff]
 simp only [Bool.and_eq_true,Bool.or_eq_true,decide_eq_true_eq]
 omega
theorem letter_any (n : Int) (w : World) : Calls Tryz.prog 83 #[.int .i64 n] w fun e w'=>e = .returned (.bool (letB n)) /\ w' = w:=by
 unfold letB
 by_cases h1 : 0 <= n <;> by_cases h2 : n <= 1114111 <;> by_cases h3 : n < 55296 <;> by_cases h4 : 57343 < n <;>
 ·go_enter Tryz.func83, Tryz.ntmps83
  go_wp2
  go_ret
  exact ⟨by simp [h1,h2,h3,h4],rfl⟩
def runeD (s : ByteArray) (i : Nat) : Nat × Nat:=if Utf8.decode s i = (65533,1) then (0,0) else Utf8.decode s i
theorem and192 : ∀ x : Fin 256,bits .and .u8 ((x.1 : Nat) : Int) 192 = ((x.1 / 64 * 64 : Nat) : Int):=by decide +kernel
theorem and63 : ∀ x : Fin 256,bits .and .u8 ((x.1 : Nat) : Int) 63 = ((x.1 % 64 : Nat) : Int):=by decide +kernel
theorem and31 : ∀ x : Fin 256,bits .and .i64 ((x.1 : Nat) : Int) 31 = ((x.1 % 32 : Nat) : Int):=by decide +kernel
theorem and15 : ∀ x : Fin 256,bits .and .i64 ((x.1 : Nat) : Int) 15 = ((x.1 % 16 : Nat) : Int):=by decide +kernel
theorem and7' : ∀ x : Fin 256,bits .and .i64 ((x.1 : Nat) : Int) 7 = ((x.1 % 8 : Nat) : Int):=by decide +kernel
theorem i64_or_nat (a b : Nat) (ha : a < 9223372036854775808) (hb : b < 9223372036854775808) : bits .or .i64 (a : Int) (b : Int) = ((a ||| b : Nat) : Int):=by
 have hx : a ||| b < 2 ^ 63:=Nat.or_lt_two_pow (by omega) (by omega)
 have h1 : (BitVec.ofInt 64 (a : Int)).toNat = a:=by
  rw [BitVec.ofInt_natCast,BitVec.toNat_ofNat];exact Nat.mod_eq_of_lt (by omega)
 have h2 : (BitVec.ofInt 64 (b : Int)).toNat = b:=by
  rw [BitVec.ofInt_natCast,BitVec.toNat_ofNat];exact Nat.mod_eq_of_lt (by omega)
 show IntKind.i64.wrap ((BitVec.ofInt 64 (a : Int) ||| BitVec.ofInt 64 (b : Int)).toNat : Int) = _
 rw [BitVec.toNat_or,h1,h2,IntKind.wrap_i64]
 omega
theorem i64_or_join (a b : Nat) (ha : a < 1048576) (hb : b < 64) : bits .or .i64 ((a : Int) * 64) (b : Int) = ((a * 64 + b : Nat) : Int):=by
 rw [show ((a : Int) * 64) = ((a * 64 : Nat) : Int) by omega,i64_or_nat _ _ (by omega) (by omega),nat_join 6 _ _ (by omega) (by omega)]
def byteAt (s : ByteArray) (i : Nat) : Nat:=(s.get! i).toNat
theorem byteAt_get {s : ByteArray} {i : Nat} (h : i < s.size) : (s[i]'h).toNat = byteAt s i:=by
 unfold byteAt
 congr 1
 obtain ⟨d⟩:=s
 show d[i]'h = d[i]!
 rw [getElem!_pos d i h]
theorem byteAt_lt (s : ByteArray) (i : Nat) : byteAt s i < 256:=UInt8.toNat_lt _
def cvs (s : ByteArray) (i c0 : Nat) : Nat -> Nat
 | 0=>c0
 | j + 1=>cvs s i c0 j * 64 + byteAt s (i + (j + 1)) % 64
theorem cvs_lt (s : ByteArray) (i c0 : Nat) (h : c0 < 32) : ∀ j,cvs s i c0 j < 32 * 64 ^ j
 | 0=>by simpa [cvs] using h
 | j + 1=>by
  have:=cvs_lt s i c0 h j
  unfold cvs
  rw [Nat.pow_succ];omega
def conts (s : ByteArray) (i j : Nat) : Prop:=∀ q,q < j -> i + (q + 1) < s.size /\ byteAt s (i + (q + 1)) / 64 = 2
theorem decode_eq (s : ByteArray) (i : Nat) : Utf8.decode s i =
  (if byteAt s i < 128 then (byteAt s i,1)
  else if byteAt s i / 32 == 6 && (decide (i + 1 < s.size) && byteAt s (i + 1) / 64 == 2) then
   (if byteAt s i % 32 * 64 + byteAt s (i + 1) % 64 >= 128 then (byteAt s i % 32 * 64 + byteAt s (i + 1) % 64,2) else (65533,1))
  else if byteAt s i / 16 == 14 && (decide (i + 1 < s.size) && byteAt s (i + 1) / 64 == 2) && (decide (i + 2 < s.size) && byteAt s (i + 2) / 64 == 2) then
   (if decide (byteAt s i % 16 * 4096 + byteAt s (i + 1) % 64 * 64 + byteAt s (i + 2) % 64 >= 2048) && Utf8.valid (byteAt s i % 16 * 4096 + byteAt s (i + 1) % 64 * 64 + byteAt s (i + 2) % 64 : Nat) then (byteAt s i % 16 * 4096 + byteAt s (i + 1) % 64 * 64 + byteAt s (i + 2) % 64,3) else (65533,1))
  else if byteAt s i / 8 == 30 && (decide (i + 1 < s.size) && byteAt s (i + 1) / 64 == 2) && (decide (i + 2 < s.size) && byteAt s (i + 2) / 64 == 2) && (decide (i + 3 < s.size) && byteAt s (i + 3) / 64 == 2) then
   (if decide (byteAt s i % 8 * 262144 + byteAt s (i + 1) % 64 * 4096 + byteAt s (i + 2) % 64 * 64 + byteAt s (i + 3) % 64 >= 65536) && Utf8.valid (byteAt s i % 8 * 262144 + byteAt s (i + 1) % 64 * 4096 + byteAt s (i + 2) % 64 * 64 + byteAt s (i + 3) % 64 : Nat) then (byteAt s i % 8 * 262144 + byteAt s (i + 1) % 64 * 4096 + byteAt s (i + 2) % 64 * 64 + byteAt s (i + 3) % 64,4) else (65533,1))
  else (65533,1)):=by
 rfl
theorem runeD_1 {s : ByteArray} {i : Nat} (h : byteAt s i < 128) : runeD s i = (byteAt s i,1):=by
 unfold runeD;rw [decode_eq,if_pos h,if_neg];intro e;simp at e;omega
theorem runeD_bad {s : ByteArray} {i : Nat} (h : (128 <= byteAt s i /\ byteAt s i < 192) \/ 248 <= byteAt s i) : runeD s i = (0,0):=by
 unfold runeD
 rw [if_pos]
 rw [decode_eq,if_neg (by omega),if_neg,if_neg,if_neg] <;> simp <;> omega
theorem runeD_2 {s : ByteArray} {i : Nat} (h1 : 192 <= byteAt s i) (h2 : byteAt s i < 224) : runeD s i = if i + 1 < s.size /\ byteAt s (i + 1) / 64 = 2 /\ 128 <= cvs s i (byteAt s i % 32) 1 then (cvs s i (byteAt s i % 32) 1,2) else (0,0):=by
 unfold runeD
 have e0 : byteAt s i / 32 = 6:=by omega
 have e1 : ¬ byteAt s i / 16 = 14:=by omega
 have e2 : ¬ byteAt s i / 8 = 30:=by omega
 have hlt : ¬ byteAt s i < 128:=by omega
 rw [decode_eq]
 simp only [cvs,hlt,e0,e1,e2,beq_iff_eq,Bool.and_eq_true,decide_eq_true_eq,true_and,false_and,if_false]
 by_cases ha : i + 1 < s.size <;> by_cases hb : byteAt s (i + 1) / 64 = 2 <;> by_cases hc : 128 <= byteAt s i % 32 * 64 + byteAt s (i + 1) % 64 <;> simp [ha,hb,hc]
theorem runeD_3 {s : ByteArray} {i : Nat} (h1 : 224 <= byteAt s i) (h2 : byteAt s i < 240) : runeD s i = if (i + 1 < s.size /\ byteAt s (i + 1) / 64 = 2) /\ (i + 2 < s.size /\ byteAt s (i + 2) / 64 = 2) /\ 2048 <= cvs s i (byteAt s i % 16) 2 /\ letB (cvs s i (byteAt s i % 16) 2 : Nat) = true then (cvs s i (byteAt s i % 16) 2,3) else (0,0):=by
 unfold runeD
 have e0 : ¬ byteAt s i / 32 = 6:=by omega
 have e1 : byteAt s i / 16 = 14:=by omega
 have e2 : ¬ byteAt s i / 8 = 30:=by omega
 have ec : cvs s i (byteAt s i % 16) 2 = byteAt s i % 16 * 4096 + byteAt s (i + 1) % 64 * 64 + byteAt s (i + 2) % 64:=by
  show (byteAt s i % 16 * 64 + byteAt s (i + 1) % 64) * 64 + byteAt s (i + 2) % 64 = _
  omega
 have hlt : ¬ byteAt s i < 128:=by omega
 rw [decode_eq,ec,letB_valid]
 simp only [hlt,e0,e1,e2,beq_iff_eq,Bool.and_eq_true,decide_eq_true_eq,true_and,false_and,if_false]
 generalize byteAt s i % 16 * 4096 + byteAt s (i + 1) % 64 * 64 + byteAt s (i + 2) % 64 = c
 by_cases ha : i + 1 < s.size <;> by_cases hb : byteAt s (i + 1) / 64 = 2 <;> by_cases ha2 : i + 2 < s.size <;> by_cases hb2 : byteAt s (i + 2) / 64 = 2 <;> by_cases hc : 2048 <= c <;> cases hv : Utf8.valid (c : Nat) <;> simp [ha,hb,ha2,hb2,hc,hv]
theorem runeD_4 {s : ByteArray} {i : Nat} (h1 : 240 <= byteAt s i) (h2 : byteAt s i < 248) : runeD s i = if (i + 1 < s.size /\ byteAt s (i + 1) / 64 = 2) /\ (i + 2 < s.size /\ byteAt s (i + 2) / 64 = 2) /\ (i + 3 < s.size /\ byteAt s (i + 3) / 64 = 2) /\ 65536 <= cvs s i (byteAt s i % 8) 3 /\ letB (cvs s i (byteAt s i % 8) 3 : Nat) = true then (cvs s i (byteAt s i % 8) 3,4) else (0,0):=by
 unfold runeD
 have e0 : ¬ byteAt s i / 32 = 6:=by omega
 have e1 : ¬ byteAt s i / 16 = 14:=by omega
 have e2 : byteAt s i / 8 = 30:=by omega
 have ec : cvs s i (byteAt s i % 8) 3 = byteAt s i % 8 * 262144 + byteAt s (i + 1) % 64 * 4096 + byteAt s (i + 2) % 64 * 64 + byteAt s (i + 3) % 64:=by
  show ((byteAt s i % 8 * 64 + byteAt s (i + 1) % 64) * 64 + byteAt s (i + 2) % 64) * 64 + byteAt s (i + 3) % 64 = _
  omega
 have hlt : ¬ byteAt s i < 128:=by omega
 rw [decode_eq,ec,letB_valid]
 simp only [hlt,e0,e1,e2,beq_iff_eq,Bool.and_eq_true,decide_eq_true_eq,true_and,false_and,if_false]
 generalize byteAt s i % 8 * 262144 + byteAt s (i + 1) % 64 * 4096 + byteAt s (i + 2) % 64 * 64 + byteAt s (i + 3) % 64 = c
 by_cases ha : i + 1 < s.size <;> by_cases hb : byteAt s (i + 1) / 64 = 2 <;> by_cases ha2 : i + 2 < s.size <;> by_cases hb2 : byteAt s (i + 2) / 64 = 2 <;> by_cases ha3 : i + 3 < s.size <;> by_cases hb3 : byteAt s (i + 3) / 64 = 2 <;> by_cases hc : 65536 <= c <;> cases hv : Utf8.valid (c : Nat) <;> simp [ha,hb,ha2,hb2,ha3,hb3,hc,hv]
def RunePost (s : ByteArray) (i : Nat) (w : World) (e : Ending) (w' : World) : Prop:=e = .returned (.tuple #[.int .i64 ((runeD s i).1 : Nat),.int .i64 ((runeD s i).2 : Nat)]) /\ ∃ k,w' = w.drewN k
theorem RunePost.mk {s : ByteArray} {i : Nat} {w w' : World} {a b : Nat} {x y : Int} (h : runeD s i = (a,b)) (hx : x = (a : Nat)) (hy : y = (b : Nat)) (hw : ∃ k,w' = w.drewN k) : RunePost s i w (.returned (.tuple #[.int .i64 x,.int .i64 y])) w':=by
 refine ⟨?_,hw⟩
 rw [h,hx,hy]
set_option maxRecDepth 1000000 in
set_option maxHeartbeats 2000000 in
theorem rune2 (s : ByteArray) (i : Nat) (w : World) (hi : i < s.size) (hs : s.size <= 1000000) (h1 : 192 <= byteAt s i) (h2 : byteAt s i < 224) : Calls Tryz.prog 141 #[.string s, .int .i64 i] w (RunePost s i w) := by
 have hb0:=byteAt_get hi
 have hblt:=byteAt_lt s i
 have hR:=hid (@runeD_2 s i h1 h2)
 obtain ⟨b,hb⟩ : ∃ b,b = byteAt s i:=⟨_,rfl⟩
 rw [<- hb] at hb0 h1 h2 hblt hR
 have hand:=and31 ⟨b,hblt⟩
 obtain ⟨c0,hc0⟩ : ∃ c0,c0 = b % 32:=⟨_,rfl⟩
 simp only [] at hand
 rw [<- hc0] at hand hR
 have hc32 : c0 < 32:=by rw [hc0];exact Nat.mod_lt _ (by decide)
 clear hb hc0
 have d0 : decide ((b : Int) < 128) = false:=by simp;omega
 have d1 : decide ((192 : Int) <= b) = true:=by simp;omega
 have d2 : decide ((b : Int) < 224) = true:=by simp;omega
 go_enter Tryz.func141,Tryz.ntmps141
 go_wp2
 go_loopw [6,9] (fun c k wr=>∃ j x : Nat,j <= 1 /\ k = .int .i64 ((j : Int) + 1) /\ c = .int .i64 x /\ Hid (x = cvs s i c0 j /\ conts s i j /\ ∃ k,wr = w.drewN k)) (fun _ k _=>(4 - intOf k).toNat)
 case atStart=>exact ⟨0,c0,by omega,rfl,rfl,rfl,fun q hq=>by omega,0,rfl⟩
 case round =>
  obtain ⟨j,x,hj,rfl,rfl,hI⟩:=hrel
  by_cases hlt : j < 1
  ·have hxb : x < 1048576 := by
    rw [hI.out.1]
    have:=cvs_lt s i c0 (by omega) j
    have h64 : 64 ^ j <= 64 ^ 2:=Nat.pow_le_pow_right (by decide) (by omega)
    omega
   by_cases hin : i + (j + 1) < s.size
   ·have hbj := byteAt_get hin
    have hbjl:=byteAt_lt s (i + (j + 1))
    obtain ⟨y,hy⟩ : ∃ y,y = byteAt s (i + (j + 1)):=⟨_,rfl⟩
    rw [<- hy] at hbj hbjl
    have ha:=and192 ⟨y,hbjl⟩
    have ha2:=and63 ⟨y,hbjl⟩
    simp only [] at ha ha2
    obtain ⟨z,hz⟩ : ∃ z,z = y / 64 * 64:=⟨_,rfl⟩
    obtain ⟨v,hv⟩ : ∃ v,v = y % 64:=⟨_,rfl⟩
    rw [<- hz] at ha
    rw [<- hv] at ha2
    have hv64 : v < 64:=by omega
    have hor:=i64_or_join x v hxb hv64
    have HY:=hid hy
    by_cases hcont : z = 128
    ·have hc2 : Hid (y / 64 = 2) := by unfold Hid; omega
     have hfin : Hid (x * 64 + v = cvs s i c0 (j + 1) /\ conts s i (j + 1)):=by
      refine ⟨?_,?_⟩
      ·show _ = cvs s i c0 j * 64 + byteAt s (i + (j + 1)) % 64
       rw [hI.out.1,hv,<- hy]
      ·intro q hq
       by_cases hqj : q < j
       ·exact hI.out.2.1 q hqj
       ·obtain rfl : q = j := by omega
        exact ⟨hin,by rw [<- hy];exact hc2.out⟩
     have hxv : x * 64 + v < 9223372036854775807:=by omega
     have ez : ((z : Int) != 128) = false:=by rw [bne_eq_false_iff_eq];omega
     clear hz hv hy
     go_wp2
     refine ⟨⟨j + 1,x * 64 + v,by omega,by congr 1 <;> omega,by congr 1 <;> omega,hfin.out.1,hfin.out.2,hI.out.2.2⟩,by simp [intOf] <;> omega⟩
    ·have hne : Hid (¬ byteAt s (i + (j + 1)) / 64 = 2) := by rw [<- hy]; unfold Hid; omega
     have ez : ((z : Int) != 128) = true:=by rw [bne_iff_ne];omega
     have hbad : Hid (runeD s i = (0,0)):=by
      unfold Hid;rw [hR.out,if_neg];rintro h
      have hq:=hne.out
      obtain rfl : j = 0:=by omega
      simp at h hq;omega
     clear hz hv hy
     go_wp2
     go_ret2
     exact RunePost.mk hbad.out rfl rfl hI.out.2.2
   ·have hbad : Hid (runeD s i = (0, 0)) := by
     unfold Hid;rw [hR.out,if_neg];rintro h
     obtain rfl : j = 0:=by omega
     simp at h hin;omega
    go_wp2
    go_ret2
    exact RunePost.mk hbad.out rfl rfl hI.out.2.2
  ·obtain rfl : j = 1 := by omega
   have hxb : x < 16777216:=by
    rw [hI.out.1]
    have:=cvs_lt s i c0 (by omega) 1
    omega
   by_cases hle : x < 128
   ·have hbad : Hid (runeD s i = (0, 0)) := by
     unfold Hid;rw [hR.out,if_neg];rintro h
     have:=hI.out.1
     rw [<- this] at h
     omega
    go_wp2
    go_ret2
    exact RunePost.mk hbad.out rfl rfl hI.out.2.2
   ·have hL := letter_any (x : Int)
    cases hlb : letB (x : Int)
    ·rw [hlb] at hL
     have hbad : Hid (runeD s i = (0,0)):=by
      unfold Hid;rw [hR.out,if_neg];rintro h
      have:=hI.out.1
      rw [<- this] at h
      exfalso
      have : x < 2048:=by have:=cvs_lt s i c0 (by omega) 1;rw [<- hI.out.1] at this;omega
      unfold letB at hlb;simp at hlb;omega
     go_wp2_with (go_at_call 83;refine (hL _).mono ?_;rintro e wz ⟨rfl,hwz⟩;rw [hwz])
     go_ret2
     exact RunePost.mk hbad.out rfl rfl hI.out.2.2
    ·rw [hlb] at hL
     have hgood : Hid (runeD s i = (x,2)):=by
      unfold Hid
      rw [hR.out,if_pos,<- hI.out.1]
      rw [<- hI.out.1]
      obtain ⟨g1,g2⟩:=hI.out.2.1 0 (by omega)
      exact ⟨g1,g2,by omega⟩
     have HL:=hid hL
     clear hlb hL hR hand
     go_wp2_with (go_at_call 83;refine (HL.out _).mono ?_;rintro e wz ⟨rfl,hwz⟩;rw [hwz])
     go_ret2
     exact RunePost.mk hgood.out rfl rfl hI.out.2.2
set_option maxRecDepth 1000000 in
set_option maxHeartbeats 2000000 in
theorem rune3 (s : ByteArray) (i : Nat) (w : World) (hi : i < s.size) (hs : s.size <= 1000000) (h1 : 224 <= byteAt s i) (h2 : byteAt s i < 240) : Calls Tryz.prog 141 #[.string s, .int .i64 i] w (RunePost s i w) := by
 have hb0:=byteAt_get hi
 have hblt:=byteAt_lt s i
 have hR:=hid (@runeD_3 s i h1 h2)
 obtain ⟨b,hb⟩ : ∃ b,b = byteAt s i:=⟨_,rfl⟩
 rw [<- hb] at hb0 h1 h2 hblt hR
 have hand:=and15 ⟨b,hblt⟩
 obtain ⟨c0,hc0⟩ : ∃ c0,c0 = b % 16:=⟨_,rfl⟩
 simp only [] at hand
 rw [<- hc0] at hand hR
 have hc32 : c0 < 16:=by rw [hc0];exact Nat.mod_lt _ (by decide)
 clear hb hc0
 have d0 : decide ((b : Int) < 128) = false:=by simp;omega
 have d1 : decide ((192 : Int) <= b) = true:=by simp;omega
 have d2 : decide ((b : Int) < 224) = false:=by simp;omega
 have d3 : decide ((224 : Int) <= b) = true:=by simp;omega
 have d4 : decide ((b : Int) < 240) = true:=by simp;omega
 go_enter Tryz.func141,Tryz.ntmps141
 go_wp2
 go_loopw [6,9] (fun c k wr=>∃ j x : Nat,j <= 2 /\ k = .int .i64 ((j : Int) + 1) /\ c = .int .i64 x /\ Hid (x = cvs s i c0 j /\ conts s i j /\ ∃ k,wr = w.drewN k)) (fun _ k _=>(4 - intOf k).toNat)
 case atStart=>exact ⟨0,c0,by omega,rfl,rfl,rfl,fun q hq=>by omega,0,rfl⟩
 case round =>
  obtain ⟨j,x,hj,rfl,rfl,hI⟩:=hrel
  by_cases hlt : j < 2
  ·have hxb : x < 1048576 := by
    rw [hI.out.1]
    have:=cvs_lt s i c0 (by omega) j
    have h64 : 64 ^ j <= 64 ^ 2:=Nat.pow_le_pow_right (by decide) (by omega)
    omega
   by_cases hin : i + (j + 1) < s.size
   ·have hbj := byteAt_get hin
    have hbjl:=byteAt_lt s (i + (j + 1))
    obtain ⟨y,hy⟩ : ∃ y,y = byteAt s (i + (j + 1)):=⟨_,rfl⟩
    rw [<- hy] at hbj hbjl
    have ha:=and192 ⟨y,hbjl⟩
    have ha2:=and63 ⟨y,hbjl⟩
    simp only [] at ha ha2
    obtain ⟨z,hz⟩ : ∃ z,z = y / 64 * 64:=⟨_,rfl⟩
    obtain ⟨v,hv⟩ : ∃ v,v = y % 64:=⟨_,rfl⟩
    rw [<- hz] at ha
    rw [<- hv] at ha2
    have hv64 : v < 64:=by omega
    have hor:=i64_or_join x v hxb hv64
    have HY:=hid hy
    by_cases hcont : z = 128
    ·have hc2 : Hid (y / 64 = 2) := by unfold Hid; omega
     have hfin : Hid (x * 64 + v = cvs s i c0 (j + 1) /\ conts s i (j + 1)):=by
      refine ⟨?_,?_⟩
      ·show _ = cvs s i c0 j * 64 + byteAt s (i + (j + 1)) % 64
       rw [hI.out.1,hv,<- hy]
      ·intro q hq
       by_cases hqj : q < j
       ·exact hI.out.2.1 q hqj
       ·obtain rfl : q = j := by omega
        exact ⟨hin,by rw [<- hy];exact hc2.out⟩
     have hxv : x * 64 + v < 9223372036854775807:=by omega
     have ez : ((z : Int) != 128) = false:=by rw [bne_eq_false_iff_eq];omega
     clear hz hv hy
     go_wp2
     refine ⟨⟨j + 1,x * 64 + v,by omega,by congr 1 <;> omega,by congr 1 <;> omega,hfin.out.1,hfin.out.2,hI.out.2.2⟩,by simp [intOf] <;> omega⟩
    ·have hne : Hid (¬ byteAt s (i + (j + 1)) / 64 = 2) := by rw [<- hy]; unfold Hid; omega
     have ez : ((z : Int) != 128) = true:=by rw [bne_iff_ne];omega
     have hbad : Hid (runeD s i = (0,0)):=by
      unfold Hid;rw [hR.out,if_neg];rintro h
      have hq:=hne.out
      have : j = 0 \/ j = 1:=by omega
      rcases this with rfl | rfl <;> simp at h hq <;> omega
     clear hz hv hy
     go_wp2
     go_ret2
     exact RunePost.mk hbad.out rfl rfl hI.out.2.2
   ·have hbad : Hid (runeD s i = (0, 0)) := by
     unfold Hid;rw [hR.out,if_neg];rintro h
     have : j = 0 \/ j = 1:=by omega
     rcases this with rfl | rfl <;> simp at h hin <;> omega
    go_wp2
    go_ret2
    exact RunePost.mk hbad.out rfl rfl hI.out.2.2
  ·obtain rfl : j = 2 := by omega
   have hxb : x < 16777216:=by
    rw [hI.out.1]
    have:=cvs_lt s i c0 (by omega) 2
    omega
   by_cases hle : x < 2048
   ·have hbad : Hid (runeD s i = (0, 0)) := by
     unfold Hid;rw [hR.out,if_neg];rintro h
     have:=hI.out.1
     rw [<- this] at h
     omega
    go_wp2
    go_ret2
    exact RunePost.mk hbad.out rfl rfl hI.out.2.2
   ·have hL := letter_any (x : Int)
    cases hlb : letB (x : Int)
    ·rw [hlb] at hL
     have hbad : Hid (runeD s i = (0,0)):=by
      unfold Hid;rw [hR.out,if_neg];rintro h
      have:=hI.out.1
      rw [<- this] at h
      simp [hlb] at h
     go_wp2_with (go_at_call 83;refine (hL _).mono ?_;rintro e wz ⟨rfl,hwz⟩;rw [hwz])
     go_ret2
     exact RunePost.mk hbad.out rfl rfl hI.out.2.2
    ·rw [hlb] at hL
     have hgood : Hid (runeD s i = (x,3)):=by
      unfold Hid
      rw [hR.out,if_pos,<- hI.out.1]
      rw [<- hI.out.1]
      obtain ⟨g1,k1⟩:=hI.out.2.1 0 (by omega)
      obtain ⟨g2,k2⟩:=hI.out.2.1 1 (by omega)
      exact ⟨⟨g1,k1⟩,⟨g2,k2⟩,by omega,hlb⟩
     have HL:=hid hL
     clear hlb hL hR hand
     go_wp2_with (go_at_call 83;refine (HL.out _).mono ?_;rintro e wz ⟨rfl,hwz⟩;rw [hwz])
     go_ret2
     exact RunePost.mk hgood.out rfl rfl hI.out.2.2
set_option maxRecDepth 1000000 in
set_option maxHeartbeats 2000000 in
theorem rune4 (s : ByteArray) (i : Nat) (w : World) (hi : i < s.size) (hs : s.size <= 1000000) (h1 : 240 <= byteAt s i) (h2 : byteAt s i < 248) : Calls Tryz.prog 141 #[.string s, .int .i64 i] w (RunePost s i w) := by
 have hb0:=byteAt_get hi
 have hblt:=byteAt_lt s i
 have hR:=hid (@runeD_4 s i h1 h2)
 obtain ⟨b,hb⟩ : ∃ b,b = byteAt s i:=⟨_,rfl⟩
 rw [<- hb] at hb0 h1 h2 hblt hR
 have hand:=and7' ⟨b,hblt⟩
 obtain ⟨c0,hc0⟩ : ∃ c0,c0 = b % 8:=⟨_,rfl⟩
 simp only [] at hand
 rw [<- hc0] at hand hR
 have hc32 : c0 < 8:=by rw [hc0];exact Nat.mod_lt _ (by decide)
 clear hb hc0
 have d0 : decide ((b : Int) < 128) = false:=by simp;omega
 have d1 : decide ((192 : Int) <= b) = true:=by simp;omega
 have d2 : decide ((b : Int) < 224) = false:=by simp;omega
 have d3 : decide ((224 : Int) <= b) = true:=by simp;omega
 have d4 : decide ((b : Int) < 240) = false:=by simp;omega
 have d5 : decide ((240 : Int) <= b) = true:=by simp;omega
 have d6 : decide ((b : Int) < 248) = true:=by simp;omega
 go_enter Tryz.func141,Tryz.ntmps141
 go_wp2
 go_loopw [6,9] (fun c k wr=>∃ j x : Nat,j <= 3 /\ k = .int .i64 ((j : Int) + 1) /\ c = .int .i64 x /\ Hid (x = cvs s i c0 j /\ conts s i j /\ ∃ k,wr = w.drewN k)) (fun _ k _=>(4 - intOf k).toNat)
 case atStart=>exact ⟨0,c0,by omega,rfl,rfl,rfl,fun q hq=>by omega,0,rfl⟩
 case round =>
  obtain ⟨j,x,hj,rfl,rfl,hI⟩:=hrel
  by_cases hlt : j < 3
  ·have hxb : x < 1048576 := by
    rw [hI.out.1]
    have:=cvs_lt s i c0 (by omega) j
    have h64 : 64 ^ j <= 64 ^ 2:=Nat.pow_le_pow_right (by decide) (by omega)
    omega
   by_cases hin : i + (j + 1) < s.size
   ·have hbj := byteAt_get hin
    have hbjl:=byteAt_lt s (i + (j + 1))
    obtain ⟨y,hy⟩ : ∃ y,y = byteAt s (i + (j + 1)):=⟨_,rfl⟩
    rw [<- hy] at hbj hbjl
    have ha:=and192 ⟨y,hbjl⟩
    have ha2:=and63 ⟨y,hbjl⟩
    simp only [] at ha ha2
    obtain ⟨z,hz⟩ : ∃ z,z = y / 64 * 64:=⟨_,rfl⟩
    obtain ⟨v,hv⟩ : ∃ v,v = y % 64:=⟨_,rfl⟩
    rw [<- hz] at ha
    rw [<- hv] at ha2
    have hv64 : v < 64:=by omega
    have hor:=i64_or_join x v hxb hv64
    have HY:=hid hy
    by_cases hcont : z = 128
    ·have hc2 : Hid (y / 64 = 2) := by unfold Hid; omega
     have hfin : Hid (x * 64 + v = cvs s i c0 (j + 1) /\ conts s i (j + 1)):=by
      refine ⟨?_,?_⟩
      ·show _ = cvs s i c0 j * 64 + byteAt s (i + (j + 1)) % 64
       rw [hI.out.1,hv,<- hy]
      ·intro q hq
       by_cases hqj : q < j
       ·exact hI.out.2.1 q hqj
       ·obtain rfl : q = j := by omega
        exact ⟨hin,by rw [<- hy];exact hc2.out⟩
     have hxv : x * 64 + v < 9223372036854775807:=by omega
     have ez : ((z : Int) != 128) = false:=by rw [bne_eq_false_iff_eq];omega
     clear hz hv hy
     go_wp2
     refine ⟨⟨j + 1,x * 64 + v,by omega,by congr 1 <;> omega,by congr 1 <;> omega,hfin.out.1,hfin.out.2,hI.out.2.2⟩,by simp [intOf] <;> omega⟩
    ·have hne : Hid (¬ byteAt s (i + (j + 1)) / 64 = 2) := by rw [<- hy]; unfold Hid; omega
     have ez : ((z : Int) != 128) = true:=by rw [bne_iff_ne];omega
     have hbad : Hid (runeD s i = (0,0)):=by
      unfold Hid;rw [hR.out,if_neg];rintro h
      have hq:=hne.out
      have : j = 0 \/ j = 1 \/ j = 2:=by omega
      rcases this with rfl | rfl | rfl <;> simp at h hq <;> omega
     clear hz hv hy
     go_wp2
     go_ret2
     exact RunePost.mk hbad.out rfl rfl hI.out.2.2
   ·have hbad : Hid (runeD s i = (0, 0)) := by
     unfold Hid;rw [hR.out,if_neg];rintro h
     have : j = 0 \/ j = 1 \/ j = 2:=by omega
     rcases this with rfl | rfl | rfl <;> simp at h hin <;> omega
    go_wp2
    go_ret2
    exact RunePost.mk hbad.out rfl rfl hI.out.2.2
  ·obtain rfl : j = 3 := by omega
   have hxb : x < 16777216:=by
    rw [hI.out.1]
    have:=cvs_lt s i c0 (by omega) 3
    omega
   by_cases hle : x < 65536
   ·have hbad : Hid (runeD s i = (0, 0)) := by
     unfold Hid;rw [hR.out,if_neg];rintro h
     have:=hI.out.1
     rw [<- this] at h
     omega
    go_wp2
    go_ret2
    exact RunePost.mk hbad.out rfl rfl hI.out.2.2
   ·have hL := letter_any (x : Int)
    cases hlb : letB (x : Int)
    ·rw [hlb] at hL
     have hbad : Hid (runeD s i = (0,0)):=by
      unfold Hid;rw [hR.out,if_neg];rintro h
      have:=hI.out.1
      rw [<- this] at h
      simp [hlb] at h
     go_wp2_with (go_at_call 83;refine (hL _).mono ?_;rintro e wz ⟨rfl,hwz⟩;rw [hwz])
     go_ret2
     exact RunePost.mk hbad.out rfl rfl hI.out.2.2
    ·rw [hlb] at hL
     have hgood : Hid (runeD s i = (x,4)):=by
      unfold Hid
      rw [hR.out,if_pos,<- hI.out.1]
      rw [<- hI.out.1]
      obtain ⟨g1,k1⟩:=hI.out.2.1 0 (by omega)
      obtain ⟨g2,k2⟩:=hI.out.2.1 1 (by omega)
      obtain ⟨g3,k3⟩:=hI.out.2.1 2 (by omega)
      exact ⟨⟨g1,k1⟩,⟨g2,k2⟩,⟨g3,k3⟩,by omega,hlb⟩
     have HL:=hid hL
     clear hlb hL hR hand
     go_wp2_with (go_at_call 83;refine (HL.out _).mono ?_;rintro e wz ⟨rfl,hwz⟩;rw [hwz])
     go_ret2
     exact RunePost.mk hgood.out rfl rfl hI.out.2.2
set_option maxRecDepth 1000000 in
theorem rune_any (s : ByteArray) (i : Nat) (w : World) (hi : i < s.size) (hs : s.size <= 1000000) : Calls Tryz.prog 141 #[.string s,.int .i64 i] w (RunePost s i w):=by
 by_cases h1 : 192 <= byteAt s i /\ byteAt s i < 224
 ·exact rune2 s i w hi hs h1.1 h1.2
 by_cases h2 : 224 <= byteAt s i /\ byteAt s i < 240
 ·exact rune3 s i w hi hs h2.1 h2.2
 by_cases h3 : 240 <= byteAt s i /\ byteAt s i < 248
 ·exact rune4 s i w hi hs h3.1 h3.2
 have hb0:=byteAt_get hi
 have hblt:=byteAt_lt s i
 by_cases h4 : byteAt s i < 128
 ·have hR := hid (runeD_1 h4)
  generalize byteAt s i = b at *
  go_enter Tryz.func141,Tryz.ntmps141
  go_wp2
  go_ret2
  exact RunePost.mk hR.out rfl rfl ⟨0,rfl⟩
 ·have hR := hid (runeD_bad (s := s) (i := i) (by omega))
  generalize byteAt s i = b at *
  have d0 : decide ((b : Int) < 128) = false:=by simp;omega
  by_cases h5 : b < 192
  ·have d1 : decide ((192 : Int) <= b) = false := by simp; omega
   have d2 : decide ((224 : Int) <= b) = false:=by simp;omega
   have d3 : decide ((240 : Int) <= b) = false:=by simp;omega
   go_enter Tryz.func141,Tryz.ntmps141
   go_wp2
   go_ret2
   exact RunePost.mk hR.out rfl rfl ⟨0,rfl⟩
  ·have d1 : decide ((b : Int) < 224) = false := by simp; omega
   have d2 : decide ((b : Int) < 240) = false:=by simp;omega
   have d3 : decide ((b : Int) < 248) = false:=by simp;omega
   go_enter Tryz.func141,Tryz.ntmps141
   go_wp2
   go_ret2
   exact RunePost.mk hR.out rfl rfl ⟨0,rfl⟩
end Go.Proofs.YticimejfjjmikaaGreatDoor
