import Derived.Test.YticimejfjjmikaaGreatDoorX3
import Derived.Test.YticimejfjjmikaaGreatDoorV9e
import Derived.Deep.LoopGhost
import Derived.Deep.RegionWith
import Derived.Maps.OwnSet
import Derived.WideKeyPair
import Derived.DeepKeys5
set_option linter.unusedVariables false
set_option linter.unusedSimpArgs false
set_option maxRecDepth 100000
namespace Go.Proofs.YticimejfjjmikaaGreatDoor
open Go.RowKit
section
variable {B : Nat} {v : Value} {N : Int} {F : Nat -> Prop} {os : List Ob}
theorem ph_used {w : World} (h : PH B v N (wordsL os) F w) : usedL os <= 4194304:=by
 have hbd:=h.bd
 rw [wordsL_length] at hbd
 omega
end
theorem below_drew (w : World) : Below w.heap.size w w.drew:=⟨rfl,rfl,rfl,Nat.le_refl _,fun _ _=>rfl⟩
structure HE (B : Nat) (v : Value) (N : Int) (os : List Ob) (F : Nat -> Prop) (w : World) : Prop where
 ph : PH B v N (wordsL os) F w
 fine : OsOk os
def stM (os : List Ob) (a b : Int) : Int:=if (kindM os a).1 = (kindM os b).1 then (kindM os a).1 else 0
def mayB (os : List Ob) (a b : Int) : Bool:=(decide (1 <= stM os a b /\ stM os a b <= 4) && decide ((sizeM os a).1 = (sizeM os b).1)) || decide (stM os a b = 5)
section
variable {B : Nat} {v : Value} {N : Int} {os : List Ob} {F : Nat -> Prop} {w w' : World}
theorem HE.on (h : HE B v N os F w) (hb : Below w.heap.size w w') : HE B v N os F w':=⟨h.ph.keep (fun b e=>hb.block b (h.ph.ge b e).2),h.fine⟩
theorem HE.used (h : HE B v N os F w) : usedL os <= 4194304:=ph_used h.ph
theorem gete_at {p : Int} {k : Nat} (hf : findM os p = some k) {i : Nat} (hi : i < (os.getD k default).f.length) : getM os p 0 (i : Nat) = ((os.getD k default).f.getD i 0,0):=by
 have e : fieldM os p 0 (i : Nat) = ((k : Int),0):=by
  unfold fieldM
  rw [hf]
  simp only
  rw [if_neg (by simp),if_neg (by omega)]
 unfold getM
 rw [e,if_pos rfl]
 simp
theorem gete_u (ho : OsOk os) (x k i : Int) : U64 (getM os x k i).1:=by
 unfold getM
 split
 ·rename_i h
  obtain ⟨n,e1,e2,_,_,h4⟩:=fieldM_ok h
  rw [e1]
  simp only [Int.toNat_natCast]
  exact ho.uf _ (getD_in_os e2) _ (getD_in_f (by omega))
 ·show U64 0
  exact ⟨by decide,by decide⟩
theorem get_out {p : Int} {k : Nat} (hf : findM os p = some k) {i : Nat} (hi : (os.getD k default).f.length <= i) : getM os p 0 (i : Nat) = (0,2):=by
 have e : fieldM os p 0 (i : Nat) = (0,2):=by
  unfold fieldM
  rw [hf]
  simp only
  rw [if_neg (by simp),if_pos (by omega)]
 unfold getM
 rw [e,if_neg (by decide)]
theorem getM_nh (ho : OsOk os) (x k i : Int) (h : (getM os x k i).2 = 0) : isR 8 (getM os x k i).1 = false:=by
 unfold getM at h ⊢
 split at h
 ·rename_i h0
  rw [if_pos h0]
  obtain ⟨n,e1,e2,_,_,h4⟩:=fieldM_ok h0
  rw [e1]
  simp only [Int.toNat_natCast]
  exact ho.nh _ (getD_in_os e2) _ (getD_in_f (by omega))
 ·rename_i h0;exact absurd h h0
theorem efield_any (p i : Int) (hp : U64 p) (hi : Z64 i) (w : World) (h : HE B v N os F w) : Calls Tryz.prog 155 #[v,.int .u64 p,.int .i64 i] w fun e w'=>e = .returned (.tuple #[.int .u64 (getM os p 0 i).1,.bool (decide ((getM os p 0 i).2 = 0))]) /\ Below w.heap.size w w':=by
 have C:=hid (pget_any h.fine p 0 i hp (by unfold Z64;omega) hi w h.ph)
 have hu:=gete_u h.fine p 0 i
 have hn:=getM_nh h.fine p 0 i
 obtain ⟨gh,rfl⟩:=h.ph.ptr
 obtain ⟨z,hz⟩ : ∃ z,z = (getM os p 0 i).1:=⟨_,rfl⟩
 obtain ⟨er,her⟩ : ∃ z,z = (getM os p 0 i).2:=⟨_,rfl⟩
 rw [<- hz,<- her] at C hn
 rw [<- hz] at hu
 rw [<- hz,<- her]
 have CH : Hid (∀ W,_):=fun W=>headof_any z hu W
 obtain ⟨b8,hb8⟩ : ∃ b,b = isR 8 z:=⟨_,rfl⟩
 obtain ⟨kd,hkd⟩ : ∃ b,b = typR z:=⟨_,rfl⟩
 obtain ⟨sz,hsz⟩ : ∃ b,b = hasR 8 z:=⟨_,rfl⟩
 rw [<- hb8,<- hkd,<- hsz] at CH
 rw [<- hb8] at hn
 clear h hz her hb8 hkd hsz hu hi hp
 by_cases h0 : er = 0
 ·obtain rfl := hn h0
  subst h0
  go_enter Tryz.func155,Tryz.ntmps155
  go_wp2_with (first
   | (go_at_call 156;(with_reducible refine C.out.mono ?_);rintro e W1 ⟨rfl,b1⟩;have HB:=hid b1;clear b1)
   | (go_at_call 115;(with_reducible refine (CH.out _).mono ?_);rintro e W2 ⟨rfl,hw2⟩;rw [hw2];clear hw2))
  go_ret2
  exact ⟨rfl,HB.out⟩
 ·have e0 : (er == 0) = false := by simp [h0]
  have e1 : decide (er = 0) = false:=decide_eq_false h0
  rw [e1]
  clear e1 hn h0
  go_enter Tryz.func155,Tryz.ntmps155
  go_wp2_with (first
   | (go_at_call 156;(with_reducible refine C.out.mono ?_);rintro e W1 ⟨rfl,b1⟩;have HB:=hid b1;clear b1)
   | (go_at_call 115;(with_reducible refine (CH.out _).mono ?_);rintro e W2 ⟨rfl,hw2⟩;rw [hw2];clear hw2))
  go_ret2
  exact ⟨rfl,HB.out⟩
theorem etype_any (a b : Int) (ha : U64 a) (hb : U64 b) (w : World) (h : HE B v N os F w) : Calls Tryz.prog 95 #[v,.int .u64 a,.int .u64 b] w fun e w'=>e = .returned (.int .i64 (stM os a b)) /\ Below w.heap.size w w':=by
 have C1:=hid (pkind_any h.fine a ha w h.ph)
 have C2 : Hid (∀ W,Below w.heap.size w W -> _):=fun W hW=>pkind_any h.fine b hb W (h.on hW).ph
 obtain ⟨gh,rfl⟩:=h.ph.ptr
 unfold stM
 obtain ⟨k1,hk1⟩ : ∃ z,z = (kindM os a).1:=⟨_,rfl⟩
 obtain ⟨k2,hk2⟩ : ∃ z,z = (kindM os b).1:=⟨_,rfl⟩
 obtain ⟨q1,hq1⟩ : ∃ z,z = (kindM os a).2:=⟨_,rfl⟩
 obtain ⟨q2,hq2⟩ : ∃ z,z = (kindM os b).2:=⟨_,rfl⟩
 rw [<- hk1,<- hq1] at C1
 rw [<- hk2,<- hq2] at C2
 rw [<- hk1,<- hk2]
 clear h hk1 hk2 hq1 hq2 ha hb
 by_cases he : k1 = k2
 ·subst he
  rw [if_pos rfl]
  have e0 : (k1 != k1) = false:=by simp
  go_enter Tryz.func95,Tryz.ntmps95
  go_wp2_with (first
   | (go_at_call 73;(with_reducible refine C1.out.mono ?_);rintro e W1 ⟨rfl,b1⟩;have HB:=hid b1;clear b1)
   | (go_at_call 73;(with_reducible refine (C2.out W1 HB.out).mono ?_);rintro e W2 ⟨rfl,b2⟩;have HB2:=hid (HB.out.trans (b2.mono HB.out.size));clear b2))
  go_ret
  exact ⟨rfl,HB2.out⟩
 ·rw [if_neg he]
  have e0 : (k1 != k2) = true:=by simp [he]
  go_enter Tryz.func95,Tryz.ntmps95
  go_wp2_with (first
   | (go_at_call 73;(with_reducible refine C1.out.mono ?_);rintro e W1 ⟨rfl,b1⟩;have HB:=hid b1;clear b1)
   | (go_at_call 73;(with_reducible refine (C2.out W1 HB.out).mono ?_);rintro e W2 ⟨rfl,b2⟩;have HB2:=hid (HB.out.trans (b2.mono HB.out.size));clear b2))
  go_ret
  exact ⟨rfl,HB2.out⟩
theorem emay_any (a b : Int) (ha : U64 a) (hb : U64 b) (w : World) (h : HE B v N os F w) : Calls Tryz.prog 101 #[v,.int .u64 a,.int .u64 b] w fun e w'=>e = .returned (.bool (mayB os a b)) /\ Below w.heap.size w w':=by
 have C:=hid (etype_any a b ha hb w h)
 have C1 : Hid (∀ W,Below w.heap.size w W -> _):=fun W hW=>psize_any h.fine a ha W (h.on hW).ph
 have C2 : Hid (∀ W,Below w.heap.size w W -> _):=fun W hW=>psize_any h.fine b hb W (h.on hW).ph
 obtain ⟨gh,rfl⟩:=h.ph.ptr
 unfold mayB
 obtain ⟨st,hst⟩ : ∃ z,z = stM os a b:=⟨_,rfl⟩
 obtain ⟨k1,hk1⟩ : ∃ z,z = (sizeM os a).1:=⟨_,rfl⟩
 obtain ⟨k2,hk2⟩ : ∃ z,z = (sizeM os b).1:=⟨_,rfl⟩
 obtain ⟨q1,hq1⟩ : ∃ z,z = (sizeM os a).2:=⟨_,rfl⟩
 obtain ⟨q2,hq2⟩ : ∃ z,z = (sizeM os b).2:=⟨_,rfl⟩
 rw [<- hst] at C
 rw [<- hk1,<- hq1] at C1
 rw [<- hk2,<- hq2] at C2
 rw [<- hk1,<- hk2,<- hst]
 clear h hk1 hk2 hq1 hq2 hst ha hb
 by_cases h4 : 1 <= st /\ st <= 4
 ·have e5 : decide (st = 5) = false := decide_eq_false (by omega)
  rw [decide_eq_true h4,e5]
  have hc : st = 1 \/ st = 2 \/ st = 3 \/ st = 4:=by omega
  obtain ⟨bb,hbb⟩ : ∃ b,b = decide (k1 = k2):=⟨_,rfl⟩
  rw [<- hbb]
  have ebb : (k1 == k2) = bb:=by rw [hbb];rfl
  clear hbb h4 e5
  rcases hc with rfl | rfl | rfl | rfl
  all_goals
   go_enter Tryz.func101,Tryz.ntmps101
   go_wp2_with (first
    | (go_at_call 95;(with_reducible refine C.out.mono ?_);rintro e W1 ⟨rfl,b1⟩;have HB:=hid b1;clear b1)
    | (go_at_call 153;(with_reducible refine (C1.out W1 HB.out).mono ?_);rintro e W2 ⟨rfl,b2⟩;have HB2:=hid (HB.out.trans (b2.mono HB.out.size));clear b2)
    | (go_at_call 153;(with_reducible refine (C2.out W2 HB2.out).mono ?_);rintro e W3 ⟨rfl,b3⟩;have HB3:=hid (HB2.out.trans (b3.mono HB2.out.size));clear b3))
   go_ret
   exact ⟨by simp,HB3.out⟩
 ·rw [decide_eq_false h4]
  have n1 : (st == 1) = false:=by simp;omega
  have n2 : (st == 2) = false:=by simp;omega
  have n3 : (st == 3) = false:=by simp;omega
  have n4 : (st == 4) = false:=by simp;omega
  obtain ⟨bb,hbb⟩ : ∃ b,b = decide (st = 5):=⟨_,rfl⟩
  rw [<- hbb]
  have ebb : (st == 5) = bb:=by rw [hbb];rfl
  clear hbb h4
  cases bb
  all_goals
   go_enter Tryz.func101,Tryz.ntmps101
   go_wp2_with (go_at_call 95;(with_reducible refine C.out.mono ?_);rintro e W1 ⟨rfl,b1⟩;have HB:=hid b1;clear b1)
   go_ret
   exact ⟨by simp,HB.out⟩
theorem esame1_any (a b : Int) (w : World) : Calls Tryz.prog 149 #[.int .u64 a,.int .u64 b] w fun e w'=>e = .returned (.bool (decide (a = b))) /\ w' = w:=by
 obtain ⟨bb,hbb⟩ : ∃ x,x = decide (a = b):=⟨_,rfl⟩
 rw [<- hbb]
 have ebb : (a == b) = bb:=by rw [hbb];rfl
 clear hbb
 go_enter Tryz.func149,Tryz.ntmps149
 go_wp2
 go_ret
 exact ⟨rfl,rfl⟩
theorem take_ext {f g : List Int} {q : Nat} (h : f.take q = g.take q) (h1 : q < f.length) (h2 : q < g.length) (e : f.getD q 0 = g.getD q 0) : f.take (q + 1) = g.take (q + 1):=by
 rw [List.take_succ_eq_append_getElem h1,List.take_succ_eq_append_getElem h2,h]
 rw [List.getD_eq_getElem?_getD,List.getElem?_eq_getElem h1,List.getD_eq_getElem?_getD,List.getElem?_eq_getElem h2] at e
 have e : f[q] = g[q]:=e
 rw [e]
theorem take_end {f g : List Int} {q : Nat} (h : f.take q = g.take q) (h1 : q <= f.length) (h2 : q <= g.length) (hn : ¬ (q < f.length /\ q < g.length)) : decide (f = g) = (decide (q < f.length) == decide (q < g.length)):=by
 by_cases e : f.length = g.length
 ·rw [List.take_of_length_le (by omega), List.take_of_length_le (by omega)] at h
  rw [decide_eq_true h,e];simp
 ·rw [decide_eq_false (fun e' => e (by rw [e']))]
  by_cases e1 : q < f.length
  ·rw [decide_eq_true e1,decide_eq_false (by omega)];rfl
  ·rw [decide_eq_false e1,decide_eq_true (by omega)];rfl
set_option maxHeartbeats 4000000 in
theorem esames_any (a b : Int) (ha : U64 a) (hb : U64 b) (w : World) (h : HE B v N os F w) {i k : Nat} (hi : findM os a = some i) (hk : findM os b = some k) : Calls Tryz.prog 103 #[v,.int .u64 a,.int .u64 b,.func (.func 149) #[] #[]] w fun e w'=>e = .returned (.bool (decide ((os.getD i default).f = (os.getD k default).f))) /\ Below w.heap.size w w':=by
 have hl1:=at_lt (findM_lt hi).1
 have hl2:=at_lt (findM_lt hk).1
 have hus:=h.used
 have K1 : Hid (∀ (j : Nat) W,j <= (os.getD i default).f.length -> Below w.heap.size w W -> Calls Tryz.prog 155 #[v,.int .u64 a,.int .i64 j] W fun e w'=>∃ z,e = .returned (.tuple #[.int .u64 z,.bool (decide (j < (os.getD i default).f.length))]) /\ (j < (os.getD i default).f.length -> z = (os.getD i default).f.getD j 0) /\ Below W.heap.size W w'):=fun j W hj hW=>by
  refine (efield_any a j ha (by unfold Z64;omega) W (h.on hW)).mono ?_
  rintro e w' ⟨rfl,hb⟩
  by_cases e : j < (os.getD i default).f.length
  ·rw [gete_at hi e,decide_eq_true e];exact ⟨_,rfl,fun _=>rfl,hb⟩
  ·rw [get_out hi (by omega),decide_eq_false e];exact ⟨_,rfl,fun h=>absurd h e,hb⟩
 have K2 : Hid (∀ (j : Nat) W,j <= (os.getD k default).f.length -> Below w.heap.size w W -> Calls Tryz.prog 155 #[v,.int .u64 b,.int .i64 j] W fun e w'=>∃ z,e = .returned (.tuple #[.int .u64 z,.bool (decide (j < (os.getD k default).f.length))]) /\ (j < (os.getD k default).f.length -> z = (os.getD k default).f.getD j 0) /\ Below W.heap.size W w'):=fun j W hj hW=>by
  refine (efield_any b j hb (by unfold Z64;omega) W (h.on hW)).mono ?_
  rintro e w' ⟨rfl,hb⟩
  by_cases e : j < (os.getD k default).f.length
  ·rw [gete_at hk e,decide_eq_true e];exact ⟨_,rfl,fun _=>rfl,hb⟩
  ·rw [get_out hk (by omega),decide_eq_false e];exact ⟨_,rfl,fun h=>absurd h e,hb⟩
 obtain ⟨gh,rfl⟩:=h.ph.ptr
 obtain ⟨f,hf⟩ : ∃ f,f = (os.getD i default).f:=⟨_,rfl⟩
 obtain ⟨g,hg⟩ : ∃ f,f = (os.getD k default).f:=⟨_,rfl⟩
 rw [<- hf] at K1 hl1
 rw [<- hg] at K2 hl2
 rw [<- hf,<- hg]
 clear h hi hk hf hg ha hb
 obtain ⟨nf,hnf⟩ : ∃ n,n = f.length:=⟨_,rfl⟩
 obtain ⟨ng,hng⟩ : ∃ n,n = g.length:=⟨_,rfl⟩
 have HNF:=hid hnf
 have HNG:=hid hng
 rw [<- hnf] at K1 hl1
 rw [<- hng] at K2 hl2
 have hm1 : nf <= 4194304:=by omega
 clear hnf hng hl1 hl2 hus
 go_enter Tryz.func103,Tryz.ntmps103
 go_wp2_with fail
 go_loopw [9] (fun i wr=>∃ q : Nat,q <= nf /\ i = .int .i64 q /\ Hid (q <= ng /\ f.take q = g.take q /\ Below w.heap.size w wr)) (fun i _=>nf - (intOf i).toNat)
 case atStart=>exact ⟨0,Nat.zero_le _,rfl,Nat.zero_le _,by simp,Below.refl _ _⟩
 case round =>
  obtain ⟨q,hq,rfl,hI⟩:=hrel
  obtain ⟨hq2,htk,hbel⟩:=hI.out
  have HTK:=hid htk
  have HBR:=hid hbel
  clear hI htk hbel
  have C1:=hid (K1.out q wr hq HBR.out)
  have C2 : Hid (∀ W,Below wr.heap.size wr W -> _):=fun W hW=>K2.out q W hq2 (HBR.out.trans (hW.mono HBR.out.size))
  obtain ⟨b1,hb1⟩ : ∃ b,b = decide (q < nf):=⟨_,rfl⟩
  obtain ⟨b2,hb2⟩ : ∃ b,b = decide (q < ng):=⟨_,rfl⟩
  rw [<- hb1] at C1
  rw [<- hb2] at C2
  have HE1:=hid hb1
  have HE2:=hid hb2
  clear hb1 hb2
  have fin : b1 = false \/ b2 = false -> Hid (decide (f = g) = (b1 == b2)):=fun hh=>by
   unfold Hid
   rw [HE1.out,HE2.out,HNF.out,HNG.out]
   refine take_end HTK.out (by rw [<- HNF.out];exact hq) (by rw [<- HNG.out];exact hq2) (fun e=>?_)
   rw [<- HNF.out,<- HNG.out] at e
   rcases hh with hh | hh
   ·rw [HE1.out,decide_eq_true e.1] at hh;cases hh
   ·rw [HE2.out,decide_eq_true e.2] at hh;cases hh
  cases b1
  ·have FIN := fin (.inl rfl)
   clear fin
   cases b2
   all_goals
    go_wp2_with (first
     | (go_at_call 155;(with_reducible refine C1.out.mono ?_);rintro e W1 ⟨z1,rfl,hz1,b1⟩;have HZ1:=hid hz1;have HB1:=hid b1;clear b1 hz1)
     | (go_at_call 155;(with_reducible refine (C2.out W1 HB1.out).mono ?_);rintro e W2 ⟨z2,rfl,hz2,b2⟩;have HZ2:=hid hz2;have HB2:=hid (HB1.out.trans (b2.mono HB1.out.size));clear b2 hz2))
    go_ret
    exact ⟨by rw [FIN.out];rfl,HBR.out.trans (HB2.out.mono HBR.out.size)⟩
  ·cases b2
   ·have FIN := fin (.inr rfl)
    clear fin
    go_wp2_with (first
     | (go_at_call 155;(with_reducible refine C1.out.mono ?_);rintro e W1 ⟨z1,rfl,hz1,b1⟩;have HZ1:=hid hz1;have HB1:=hid b1;clear b1 hz1)
     | (go_at_call 155;(with_reducible refine (C2.out W1 HB1.out).mono ?_);rintro e W2 ⟨z2,rfl,hz2,b2⟩;have HZ2:=hid hz2;have HB2:=hid (HB1.out.trans (b2.mono HB1.out.size));clear b2 hz2))
    go_ret
    exact ⟨by rw [FIN.out];rfl,HBR.out.trans (HB2.out.mono HBR.out.size)⟩
   ·have hlt : q < nf := of_decide_eq_true HE1.out.symm
    have hlt2 : q < ng:=of_decide_eq_true HE2.out.symm
    clear fin
    have hne : Hid (f.getD q 0 ≠ g.getD q 0 -> decide (f = g) = false):=fun hh=>decide_eq_false (fun e=>hh (by rw [e]))
    have hext : Hid (f.getD q 0 = g.getD q 0 -> f.take (q + 1) = g.take (q + 1)):=fun hh=>take_ext HTK.out (by rw [<- HNF.out];exact hlt) (by rw [<- HNG.out];exact hlt2) hh
    obtain ⟨x1,hx1⟩ : ∃ x,x = f.getD q 0:=⟨_,rfl⟩
    obtain ⟨x2,hx2⟩ : ∃ x,x = g.getD q 0:=⟨_,rfl⟩
    rw [<- hx1] at C1 hne hext
    rw [<- hx2] at C2 hne hext
    clear hx1 hx2
    have CS : Hid (∀ W,_):=fun W=>esame1_any x1 x2 W
    by_cases hxx : x1 = x2
    ·have HX := hid (hext.out hxx)
     rw [decide_eq_true hxx] at CS
     clear hxx hne hext
     go_wp2_with (first
      | (go_at_call 155;(with_reducible refine C1.out.mono ?_);rintro e W1 ⟨z1,rfl,hz1,b1⟩;obtain rfl:=hz1 hlt;have HB1:=hid b1;clear b1 hz1)
      | (go_at_call 155;(with_reducible refine (C2.out W1 HB1.out).mono ?_);rintro e W2 ⟨z2,rfl,hz2,b2⟩;obtain rfl:=hz2 hlt2;have HB2:=hid (HB1.out.trans (b2.mono HB1.out.size));clear b2 hz2)
      | (go_at_call 149;(with_reducible refine (CS.out _).mono ?_);rintro e W3 ⟨rfl,hw3⟩;rw [hw3];clear hw3))
     exact ⟨⟨q + 1,by omega,by go_num,by omega,HX.out,HBR.out.trans (HB2.out.mono HBR.out.size)⟩,by simp [intOf] <;> omega⟩
    ·have HX := hid (hne.out hxx)
     rw [decide_eq_false hxx] at CS
     clear hxx hne hext
     go_wp2_with (first
      | (go_at_call 155;(with_reducible refine C1.out.mono ?_);rintro e W1 ⟨z1,rfl,hz1,b1⟩;obtain rfl:=hz1 hlt;have HB1:=hid b1;clear b1 hz1)
      | (go_at_call 155;(with_reducible refine (C2.out W1 HB1.out).mono ?_);rintro e W2 ⟨z2,rfl,hz2,b2⟩;obtain rfl:=hz2 hlt2;have HB2:=hid (HB1.out.trans (b2.mono HB1.out.size));clear b2 hz2)
      | (go_at_call 149;(with_reducible refine (CS.out _).mono ?_);rintro e W3 ⟨rfl,hw3⟩;rw [hw3];clear hw3))
     go_ret
     exact ⟨by rw [HX.out];rfl,HBR.out.trans (HB2.out.mono HBR.out.size)⟩
theorem esamef_any (a b : Int) (ha : U64 a) (hb : U64 b) (w : World) (h : HE B v N os F w) {i k : Nat} (hi : findM os a = some i) (hk : findM os b = some k) : Calls Tryz.prog 96 #[v,.int .u64 a,.int .u64 b] w fun e w'=>e = .returned (.bool (decide ((os.getD i default).f = (os.getD k default).f))) /\ Below w.heap.size w w':=by
 have C:=hid (esames_any a b ha hb w h hi hk)
 obtain ⟨gh,rfl⟩:=h.ph.ptr
 obtain ⟨bb,hbb⟩ : ∃ x,x = decide ((os.getD i default).f = (os.getD k default).f):=⟨_,rfl⟩
 rw [<- hbb] at C ⊢
 clear h hi hk ha hb hbb
 go_enter Tryz.func96,Tryz.ntmps96
 go_wp2_with (go_at_call 103;(with_reducible refine C.out.mono ?_);rintro e W1 ⟨rfl,b1⟩;have HB:=hid b1;clear b1)
 go_ret
 exact ⟨rfl,HB.out⟩
end
theorem ekeyed : Maps.Keyed Tryz.prog 44:=Maps.int_keyed Tryz.underlying44
theorem ekey_of {z : Int} (hz : U64 z) : keyOf Tryz.prog 44 (.int .u64 z) = some (.int .u64 z):=Maps.keyOf_int_mk Tryz.underlying44 (by unfold U64 at hz;simp [Lit.wf,IntKind.min,IntKind.max,IntKind.signed,IntKind.bits];omega)
theorem own_sharp {k : TypeId} {R : Value -> Option (DataW Unit × List MemPlace)} {w : World} {b n : Nat} {D : DataW Unit} (h : w.ownsMap Tryz.prog k R b n D) {m : Nat} (hm : Maps.size D = m) : w.ownsMap Tryz.prog k R b m D:=by
 obtain ⟨es,clock,hb,F,hs,rfl⟩:=h
 exact ⟨es,clock,hb,F,by rw [<- hm];simp [Maps.size,length_sorted],rfl⟩
theorem zword (w : World) : (zeroValue 44).run Tryz.prog w = .ok (.int .u64 0) w:=by kernel_rfl
theorem wf_u64 {z : Int} (hz : U64 z) : (Lit.int .u64 z).wf = true:=by unfold U64 at hz;simp [Lit.wf,IntKind.min,IntKind.max,IntKind.signed,IntKind.bits];omega
def MapU (w : World) (Bm : Nat) (q : List Int) (L : Int -> Option Int) : Prop :=
 ∃ D,w.ownsMap (H:=Unit) Tryz.prog 44 (plainElem Tryz.prog 44) Bm q.length D /\ Maps.size D = q.length /\ ∀ z,U64 z -> Maps.has D (.int .u64 z) = (L z).isSome /\ (L z).isSome = decide (z∈q) /\ ∀ y,L z = some y -> U64 y /\ D.atKey (.int .u64 z) (.lit (.int .u64 0)) = .lit (.int .u64 y)
section
variable {w w' : World} {Bm : Nat} {q : List Int} {L : Int -> Option Int} {z y : Int}
theorem MapU.frame (h : MapU w Bm q L) (hb : w'.heap[Bm]? = w.heap[Bm]?) : MapU w' Bm q L:=by
 obtain ⟨D,⟨es,clock,h1,h2,h3,h4⟩,h5⟩:=h
 exact ⟨D,⟨es,clock,hb.trans h1,h2,h3,h4⟩,h5⟩
theorem MapU.made (w : World) : MapU (w.alloc (.map #[] 0)) w.heap.size [] (fun _=>none) :=
 ⟨.map [],World.ownsMap_made w _ _ _,rfl,fun z hz=>⟨by simp [Maps.has],by simp,fun y h=>by cases h⟩⟩
theorem MapU.look (h : MapU w Bm q L) (hz : U64 z) : ∃ c : Int,(Instr.lookup 110 (.map (some Bm)) (.int .u64 z) true).run Tryz.prog w = .ok (.tuple #[.int .u64 c,.bool (L z).isSome]) w /\ (∀ y,L z = some y -> c = y /\ U64 y):=by
 obtain ⟨D,h1,h2,h3⟩:=h
 obtain ⟨v,ps,hrun,hv⟩:=h1.look_ok ekeyed Tryz.underlying110 (zword w) (plainElem_int Tryz.underlying44 (a:=0) (by decide)) (ekey_of hz)
 obtain ⟨c,rfl,hc,_⟩:=plainElem_int_inv Tryz.underlying44 hv
 obtain ⟨g1,g2,g3⟩:=h3 z hz
 refine ⟨c,by rw [hrun,g1],fun y hy=>?_⟩
 obtain ⟨k1,k2⟩:=g3 y hy
 have hc1:=congrArg Prod.fst hc
 simp only at hc1
 rw [k2] at hc1
 injection hc1 with hc1
 injection hc1 with _ hc1
 exact ⟨hc1.symm,k1⟩
theorem MapU.store (h : MapU w Bm q L) (hz : U64 z) (hy : U64 y) (hl : q.length <= 100000000) : ∃ w',(Instr.mapUpdate 110 (.map (some Bm)) (.int .u64 z) (.int .u64 y)).run Tryz.prog w = .ok () w' /\ MapU w' Bm (if z∈q then q else q ++ [z]) (upd L z y) /\ w.grownBy w' (some Bm):=by
 obtain ⟨D,h1,h2,h3⟩:=h
 obtain ⟨w',hrun,ho,ht⟩:=h1.store ekeyed Tryz.underlying110 (by unfold maxLen;omega) (ekey_of hz) (plainElem_int Tryz.underlying44 (a:=y) (wf_u64 hy))
 have hsz : Maps.size (D.put (.int .u64 z) (.lit (.int .u64 y))) = (if z∈q then q else q ++ [z]).length:=by
  obtain ⟨g1,g2,g3⟩:=h3 z hz
  rw [Maps.size_put (h1.tidy ekeyed),g1,g2,h2]
  by_cases e : z∈q
  ·rw [decide_eq_true e,if_pos rfl,if_pos e]
  ·rw [decide_eq_false e,if_neg (by decide),if_neg e,List.length_append];rfl
 refine ⟨w',hrun,⟨_,own_sharp ho hsz,hsz,fun x hx=>?_⟩,ht.grown⟩
 by_cases e : x = z
 ·subst e
  refine ⟨?_,?_,fun y' hy'=>?_⟩
  ·rw [Maps.has_put_same h1.isMap (ekeyed.key (ekey_of hz))];simp [upd]
  ·simp only [upd, if_true, Option.isSome_some]
   by_cases e : x∈q
   ·rw [if_pos e,decide_eq_true e]
   ·rw [if_neg e];simp
  ·unfold upd at hy'
   rw [if_pos rfl] at hy'
   injection hy' with hy'
   subst hy'
   exact ⟨hy,Maps.atKey_put_same h1.isMap (ekeyed.key (ekey_of hz)) _ _⟩
 ·have hne : (Lit.int .u64 x) ≠ .int .u64 z := fun e' => e (by injection e')
  obtain ⟨g1,g2,g3⟩:=h3 x hx
  have eu : upd L z y x = L x:=by unfold upd;rw [if_neg e]
  rw [eu]
  refine ⟨by rw [Maps.has_put_other hne,g1],?_,fun y' hy'=>?_⟩
  ·rw [g2]
   congr 1
   split
   ·rfl
   ·simp [e]
  ·rw [Maps.atKey_put_other hne];exact g3 y' hy'
end
theorem pkeyed : Maps.Keyed Tryz.prog 115 :=
 Maps.Keyed.of_law (deep_law_laid (m:=2) (by kernel_rfl) (by omega) (of_decide_eq_true (by kernel_rfl)) (by kernel_rfl) (by rw [Tryz.underlying115]))
theorem parr : WideMaps.ArrKey Tryz.prog 115 44 2:=⟨Tryz.underlying115,by kernel_rfl,by kernel_rfl,by kernel_rfl⟩
def pairV (x y : Int) : Value:=.agg #[.int .u64 x,.int .u64 y]
theorem pkey_of {x y : Int} (hx : U64 x) (hy : U64 y) : ∃ kl,keyOf Tryz.prog 115 (pairV x y) = some kl :=
 ⟨_,WideMaps.keyOf_pair parr Tryz.underlying44 ⟨Tryz.prog.types.size - 1,by have : 0 < Tryz.prog.types.size:=of_decide_eq_true (by kernel_rfl);omega⟩ (wf_u64 hx) (wf_u64 hy)⟩
def MapH (w : World) (Bm : Nat) (q : List (Int × Int)) : Prop :=
 ∃ D,w.ownsMap (H:=Unit) Tryz.prog 115 unitElem Bm q.length D /\ Maps.size D = q.length /\ ∀ x y kl,U64 x -> U64 y -> keyOf Tryz.prog 115 (pairV x y) = some kl -> Maps.has D kl = decide ((x,y)∈q)
section
variable {w w' : World} {Bm : Nat} {q : List (Int × Int)} {x y : Int}
theorem MapH.frame (h : MapH w Bm q) (hb : w'.heap[Bm]? = w.heap[Bm]?) : MapH w' Bm q:=by
 obtain ⟨D,⟨es,clock,h1,h2,h3,h4⟩,h5⟩:=h
 exact ⟨D,⟨es,clock,hb.trans h1,h2,h3,h4⟩,h5⟩
theorem MapH.made (w : World) : MapH (w.alloc (.map #[] 0)) w.heap.size [] :=
 ⟨.map [],World.ownsMap_made w _ _ _,rfl,fun x y kl _ _ _=>by simp [Maps.has]⟩
theorem zunit (w : World) : (zeroValue 168).run Tryz.prog w = .ok (.agg #[]) w:=by kernel_rfl
theorem MapH.look (h : MapH w Bm q) (hx : U64 x) (hy : U64 y) : (Instr.lookup 109 (.map (some Bm)) (pairV x y) true).run Tryz.prog w = .ok (.tuple #[.agg #[],.bool (decide ((x,y)∈q))]) w:=by
 obtain ⟨D,h1,h2,h3⟩:=h
 obtain ⟨kl,hk⟩:=pkey_of hx hy
 obtain ⟨v,ps,hrun,hv⟩:=h1.look_ok pkeyed Tryz.underlying109 (zunit w) unitElem_mk hk
 obtain ⟨rfl,_⟩:=unitElem_inv hv
 rw [hrun,h3 x y kl hx hy hk]
theorem MapH.store (h : MapH w Bm q) (hx : U64 x) (hy : U64 y) (hm : (x,y) ∉ q) (hl : q.length <= 100000000000000) : ∃ w',(Instr.mapUpdate 109 (.map (some Bm)) (pairV x y) (.agg #[])).run Tryz.prog w = .ok () w' /\ MapH w' Bm (q ++ [(x,y)]) /\ w.grownBy w' (some Bm):=by
 obtain ⟨D,h1,h2,h3⟩:=h
 obtain ⟨kl,hk⟩:=pkey_of hx hy
 obtain ⟨w',hrun,ho,ht⟩:=h1.store pkeyed Tryz.underlying109 (by unfold maxLen;omega) hk unitElem_mk
 have hsz : Maps.size (D.put kl (.agg [])) = (q ++ [(x,y)]).length:=by
  rw [Maps.size_put (h1.tidy pkeyed),h3 x y kl hx hy hk,decide_eq_false hm,if_neg (by decide),h2,List.length_append];rfl
 refine ⟨w',hrun,⟨_,own_sharp ho hsz,hsz,fun x' y' kl' hx' hy' hk'=>?_⟩,ht.grown⟩
 by_cases e : kl' = kl
 ·subst e
  have:=pkeyed.inj hk hk'
  unfold pairV at this
  have e2 : x = x' /\ y = y':=by simpa using this
  obtain ⟨rfl,rfl⟩:=e2
  rw [Maps.has_put_same h1.isMap (pkeyed.key hk)];simp
 ·have hne : (x', y') ≠ (x, y) := fun e' => by
   injection e' with a1 a2
   subst a1 a2
   rw [hk] at hk'
   injection hk' with hk'
   exact e hk'.symm
  rw [Maps.has_put_other e,h3 x' y' kl' hx' hy' hk']
  congr 1
  simp [hne]
end
def pz (l : List (Int × Int)) : List Value:=l.flatMap (fun p=>[.int .u64 p.1,.int .u64 p.2])
theorem pz_append (a b : List (Int × Int)) : pz (a ++ b) = pz a ++ pz b:=by simp [pz]
theorem pz_length (l : List (Int × Int)) : (pz l).length = l.length * 2:=by
 induction l with
 | nil=>rfl
 | cons x l ih=>simp only [pz,List.flatMap_cons,List.length_append,List.length_cons,List.length_nil] at ih ⊢;omega
structure MT (b : Nat) (w0 : World) (v vO : Value) (q : List Int) (L : Int -> Option Int) (hq op : List (Int × Int)) (w : World) : Prop where
 bel : Below b w0 w
 box : w.heap[b + 2]? = some (.cells #[v,.map (some b),.map (some (b + 1)),vO] 113 (0,0))
 mh : MapH w b hq
 ml : MapU w (b + 1) q L
 ow : w.ownsRow (b + 3) 115 2 vO op.length (pz op)
section
variable {b : Nat} {w0 w w' : World} {v vO : Value} {q : List Int} {L : Int -> Option Int} {hq op : List (Int × Int)}
theorem MT.lt (h : MT b w0 v vO q L hq op w) : b + 3 <= w.heap.size:=(Array.getElem?_eq_some_iff.1 h.box).1
theorem MT.on (h : MT b w0 v vO q L hq op w) (hb : Below w.heap.size w w') : MT b w0 v vO q L hq op w':=by
 have hl:=h.lt
 exact ⟨h.bel.trans (hb.mono (by omega)),(hb.block _ (by omega)).trans h.box,h.mh.frame (hb.block _ (by omega)),h.ml.frame (hb.block _ (by omega)),own_at h.ow (fun k e=>hb.block k (h.ow.lt k e).2)⟩
theorem MT.turnL {q' : List Int} {L' : Int -> Option Int} (h : MT b w0 v vO q L hq op w) (hg : w.grownBy w' (some (b + 1))) (hm : MapU w' (b + 1) q' L') : MT b w0 v vO q' L' hq op w':=by
 have hl:=h.lt
 have hk : ∀ k,k < w.heap.size -> k ≠ b + 1 -> w'.heap[k]? = w.heap[k]?:=fun k hk hne=>hg.block k hk (fun e=>hne (Option.some.inj e))
 refine ⟨h.bel.trans ⟨hg.os,hg.tape,hg.output,hg.size,fun k hk'=>hk k (by omega) (by omega)⟩,(hk _ (by omega) (by omega)).trans h.box,h.mh.frame (hk _ (by omega) (by omega)),hm,own_at h.ow (fun k e=>?_)⟩
 have:=h.ow.lt k e
 exact hk k this.2 (by omega)
theorem MT.turnH {hq' : List (Int × Int)} (h : MT b w0 v vO q L hq op w) (hg : w.grownBy w' (some b)) (hm : MapH w' b hq') : MT b w0 v vO q L hq' op w':=by
 have hl:=h.lt
 have hk : ∀ k,k < w.heap.size -> k ≠ b -> w'.heap[k]? = w.heap[k]?:=fun k hk hne=>hg.block k hk (fun e=>hne (Option.some.inj e))
 refine ⟨h.bel.trans ⟨hg.os,hg.tape,hg.output,hg.size,fun k hk'=>hk k (by omega) (by omega)⟩,(hk _ (by omega) (by omega)).trans h.box,hm,h.ml.frame (hk _ (by omega) (by omega)),own_at h.ow (fun k e=>?_)⟩
 have:=h.ow.lt k e
 exact hk k this.2 (by omega)
theorem MT.push {op' : List (Int × Int)} {g cap n : Nat} (h : MT b w0 v vO q L hq op w) (hn : op'.length = n) (ho : w'.ownsRow (b + 3) 115 2 (.slice (some ⟨g,0,none⟩) n cap) n (pz op')) (hg : w.grownBy w' vO.ownBlock) (hl : vO.ownBlock = some g \/ g = w.heap.size) :
  MT b w0 v (.slice (some ⟨g,0,none⟩) n cap) q L hq op' (w'.setCell ⟨b + 2,3,none⟩ (.slice (some ⟨g,0,none⟩) n cap)) /\ w'.cell? ⟨b + 2,3,none⟩ = some vO /\ w'.frozen? ⟨b + 2,3,none⟩ = false:=by
 subst hn
 have hs:=h.lt
 have hw2 : ∀ k,vO.ownBlock = some k -> b + 3 <= k:=fun k e=>(h.ow.lt k e).1
 have hk : ∀ k,k < w.heap.size -> vO.ownBlock ≠ some k -> w'.heap[k]? = w.heap[k]?:=fun k hk hne=>hg.block k hk (fun e=>hne e.symm)
 have hlow : ∀ k,k < b + 3 -> w'.heap[k]? = w.heap[k]?:=fun k hkb=>hk k (by omega) (fun e=>by have:=hw2 k e;omega)
 have hset : ∀ k,k ≠ b + 2 -> (w'.setCell ⟨b + 2,3,none⟩ (.slice (some ⟨g,0,none⟩) op'.length cap)).heap[k]? = w'.heap[k]?:=fun k hne=>Below.heap_setCell _ _ _ _ hne
 have hg2 : b + 3 <= g:=by rcases hl with e | e;exact hw2 g e;omega
 have hbx:=(hlow (b + 2) (by omega)).trans h.box
 refine ⟨⟨?_,?_,h.mh.frame ((hset _ (by omega)).trans (hlow _ (by omega))),h.ml.frame ((hset _ (by omega)).trans (hlow _ (by omega))),own_at ho (fun k e=>?_)⟩,blk_cell hbx 3,blk_free hbx 3⟩
 ·exact (h.bel.trans ⟨hg.os,hg.tape,hg.output,hg.size,fun k hk'=>hlow k (by omega)⟩).setCell (p:=⟨b + 2,3,none⟩) (by show b <= b + 2;omega) _
 ·rw [blk_set (i:=3) hbx];rfl
 ·have e' : g = k := Option.some.inj e
  exact hset k (by omega)
theorem MT.pop {op' : List (Int × Int)} {p : Int × Int} (h : MT b w0 v vO q L hq (op' ++ [p]) w) : ∃ g cap,vO = .slice (some ⟨g,0,none⟩) (op'.length + 1) cap /\ op'.length + 1 <= cap /\ cap <= maxLen /\ w.cell? ⟨g,op'.length * 2,none⟩ = some (.int .u64 p.1) /\ w.cell? ⟨g,op'.length * 2 + 1,none⟩ = some (.int .u64 p.2) /\ MT b w0 v (.slice (some ⟨g,0,none⟩) op'.length cap) q L hq op' (w.setCell ⟨b + 2,3,none⟩ (.slice (some ⟨g,0,none⟩) op'.length cap)):=by
 have ho:=h.ow
 have hs:=h.lt
 rw [List.length_append,List.length_singleton,pz_append] at ho
 rcases ho.2 with ⟨h0,h1⟩ | ⟨g,cap,cur,h1,h2,h3,h4,h5,h6,h7⟩
 ·omega
 have hset : ∀ k,k ≠ b + 2 -> (w.setCell ⟨b + 2,3,none⟩ (.slice (some ⟨g,0,none⟩) op'.length cap)).heap[k]? = w.heap[k]?:=fun k hne=>Below.heap_setCell _ _ _ _ hne
 have hl:=pz_length op'
 have key : ∀ j,j < 2 -> w.cell? ⟨g,op'.length * 2 + j,none⟩ = (pz [p])[j]?:=fun j hj=>by
  rw [blk_cell h3]
  have : (cur.toList.take ((op'.length + 1) * 2))[op'.length * 2 + j]? = (pz [p])[j]?:=by
   rw [h7,List.getElem?_append_right (by omega),hl]
   congr 1;omega
  rw [<- this,List.getElem?_take,if_pos (by omega)];simp
 refine ⟨g,cap,h1,h4,h5,key 0 (by omega),key 1 (by omega),⟨h.bel.setCell (p:=⟨b + 2,3,none⟩) (by show b <= b + 2;omega) _,by rw [blk_set (i:=3) h.box];rfl,h.mh.frame (hset _ (by omega)),h.ml.frame (hset _ (by omega)),?_⟩⟩
 refine ⟨hl,.inr ⟨g,cap,cur,rfl,h2,(hset g (by omega)).trans h3,by omega,h5,h6,?_⟩⟩
 have:=congrArg (List.take (op'.length * 2)) h7
 rw [List.take_take,Nat.min_eq_left (by omega),List.take_append_of_le_length (by omega),List.take_of_length_le (l:=pz op') (by omega)] at this
 exact this
theorem MT.start (w0 : World) (v : Value) : MT w0.heap.size w0 v (.slice none 0 0) [] (fun _=>none) [] [] (((w0.alloc (.map #[] 0)).alloc (.map #[] 0)).alloc (.cells #[v,.map (some w0.heap.size),.map (some (w0.heap.size + 1)),.slice none 0 0] 113)):=by
 have h1:=MapH.made w0
 have h2:=MapU.made (w0.alloc (.map #[] 0))
 have h3:=blk_new ((w0.alloc (.map #[] 0)).alloc (.map #[] 0)) #[v,.map (some w0.heap.size),.map (some (w0.heap.size + 1)),.slice none 0 0] 113
 rw [size_alloc] at h2
 rw [size_alloc,size_alloc] at h3
 have b2:=Ba (w0.alloc (.map #[] 0)) (.map #[] 0)
 have b3:=Ba ((w0.alloc (.map #[] 0)).alloc (.map #[] 0)) (.cells #[v,.map (some w0.heap.size),.map (some (w0.heap.size + 1)),.slice none 0 0] 113)
 refine ⟨Bt (Bt (Ba w0 _) b2) b3,h3,h1.frame ?_,h2.frame (b3.block _ (by rw [size_alloc,size_alloc];omega)),World.ownsRow_nil _ _ _ _⟩
 exact (b3.block _ (by rw [size_alloc,size_alloc];omega)).trans (b2.block _ (by rw [size_alloc];omega))
end
end Go.Proofs.YticimejfjjmikaaGreatDoor
