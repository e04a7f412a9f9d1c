import Derived.Test.YticimejfjjmikaaGreatDoorG9
import Derived.Test.YticimejfjjmikaaGreatDoorW22
import Derived.Test.YticimejfjjmikaaGreatDoorW20
import Derived.Test.YticimejfjjmikaaGreatDoorV4
import Derived.Test.YticimejfjjmikaaGreatDoorX3
import Derived.Test.YticimejfjjmikaaGreatDoorG3
import Derived.Test.YticimejfjjmikaaGreatDoorQ1
import Derived.Test.YticimejfjjmikaaGreatDoorW41
import Derived.Deep.RegionLaw
import Derived.Deep.AppendLies
set_option linter.unusedVariables false
set_option linter.unusedSimpArgs false
set_option maxRecDepth 100000
namespace Go.Proofs.YticimejfjjmikaaGreatDoor
open Go.RowKit
theorem sword_any (k n : Int) (hk : Z64 k) (hn : Z64 n) (w : World) : Calls Tryz.prog 146 #[.int .i64 k,.int .i64 n] w fun e w'=>e = .returned (.int .u64 (wordR k n 0)) /\ Below w.heap.size w w':=by
 have C:=hid (rword_any k n 0 hk hn (by unfold Z64;omega) w)
 unfold SVal at C
 obtain ⟨x,hx⟩ : ∃ x,x = wordR k n 0:=⟨_,rfl⟩
 obtain ⟨b,hb⟩ : ∃ x,x = rightB k n 0:=⟨_,rfl⟩
 rw [<- hx,<- hb] at C
 rw [<- hx]
 clear hx hb
 go_enter Tryz.func146,Tryz.ntmps146
 go_wp2_with (go_at_call 147;(with_reducible refine C.out.mono ?_);rintro e W1 ⟨rfl,b1⟩)
 go_ret
 exact ⟨rfl,b1⟩
def ltF (s : ByteArray) : Nat -> Nat -> List Int
 | 0,_=>[]
 | f + 1,i=>if i < s.size then ((runeD s i).1 : Int) :: ltF s f (i + max 1 (runeD s i).2) else []
def ltrs (s : ByteArray) : List Int:=ltF s s.size 0
theorem ltF_len (s : ByteArray) : ∀ f i,(ltF s f i).length <= f
 | 0,_=>Nat.le_refl _
 | f + 1,i=>by
  unfold ltF
  split
  ·have:=ltF_len s f (i + max 1 (runeD s i).2);simp;omega
  ·simp
theorem ltrs_len (s : ByteArray) : (ltrs s).length <= s.size:=ltF_len s _ _
set_option maxHeartbeats 4000000 in
theorem letters_any (s : ByteArray) (hs : s.size <= 1000000) (w : World) : Calls Tryz.prog 145 #[.string s] w fun e w'=>∃ v,e = .returned v /\ w'.ownsRow w.heap.size 3 1 v (ltrs s).length (iz (ltrs s)) /\ Below w.heap.size w w':=by
 go_enter Tryz.func145,Tryz.ntmps145
 go_wp2_with fail
 go_loopw [3,4] (fun v i wr=>∃ p : Nat,i = .int .i64 p /\ p <= s.size + 4 /\ Hid (∃ ls f,wr.ownsRow w.heap.size 3 1 v ls.length (iz ls) /\ Below w.heap.size w wr /\ ltrs s = ls ++ ltF s f p /\ (s.size - p <= f) /\ ls.length <= p)) (fun _ i _=>s.size + 5 - (intOf i).toNat)
 case atStart=>exact ⟨0,rfl,by omega,[],s.size,World.ownsRow_nil _ _ _ _,Below.refl _ _,rfl,by omega,by simp⟩
 case round =>
  obtain ⟨p,rfl,hp,hI⟩:=hrel
  obtain ⟨ls,f,ho,hb,hl,hf,hlp⟩:=hI.out
  have HO:=hid ho
  have HB:=hid hb
  have HL:=hid hl
  clear hI ho hb hl
  by_cases hlt : p < s.size
  ·have C := hid (rune_any s p wr hlt hs)
   unfold RunePost at C
   have hd:=decode_le s p
   have hk4 : (runeD s p).2 <= 4:=by
    unfold runeD
    split
    ·exact Nat.zero_le _
    ·exact hd.2
   have HLT : Hid (ltF s f p = ((runeD s p).1 : Int) :: ltF s (f - 1) (p + max 1 (runeD s p).2)):=by
    unfold Hid
    obtain ⟨g,rfl⟩ : ∃ g,f = g + 1:=⟨f - 1,by omega⟩
    rw [ltF,if_pos hlt];rfl
   obtain ⟨⟨c,k⟩,hck⟩ : ∃ x,x = runeD s p:=⟨_,rfl⟩
   rw [<- hck] at C hk4 HLT
   simp only at C hk4 HLT
   obtain ⟨n,hn⟩ : ∃ n,n = ls.length:=⟨_,rfl⟩
   rw [<- hn] at HO hlp
   have HN:=hid hn
   clear hck hd hn
   have arm : Hid (∀ wq : World,Below w.heap.size w wq -> wq.heap.size = wr.heap.size -> wq.ownsRow w.heap.size 3 1 u3 n (iz ls) -> (wq.alloc (.cells #[.int .i64 (c : Nat)] 3)).ownsRow w.heap.size 3 1 u3 n (iz ls) /\ (wq.alloc (.cells #[.int .i64 (c : Nat)] 3)).cell? ⟨wq.heap.size,0,none⟩ = some (.int .i64 (c : Nat)) /\ w.heap.size <= (wq.alloc (.cells #[.int .i64 (c : Nat)] 3)).heap.size):=fun wq hb hsz h=>⟨own_at h (fun b e=>(Ba wq _).block b (h.lt b e).2),blk_cell (blk_new wq #[.int .i64 (c : Nat)] 3) 0,by have:=hb.size;rw [size_alloc];omega⟩
   by_cases hk : k = 0
   ·subst hk
    go_wp2_with (first
     | (go_at_call 141;(with_reducible refine C.out.mono ?_);rintro e W1 ⟨rfl,kd,hw1⟩;have b1 : Below wr.heap.size wr W1:=(by rw [hw1];exact Bd wr kd);have HB1:=hid (Bt HB.out b1);have HO1:=hid (own_at HO.out (fun b e=>b1.block b (HO.out.lt b e).2));obtain ⟨a1,a2,a3⟩:=arm.out W1 HB1.out (by rw [hw1];rfl) HO1.out;have A1:=hid a1;have A2:=hid a2;have A3:=hid a3;have HBA:=hid (Bt HB1.out (Ba W1 (.cells #[.int .i64 (c : Nat)] 3)));clear b1 hw1 a1 a2 a3)
     | (at_builtin;refine appi rfl _ _ 32 rfl w.heap.size 3 Tryz.underlying32 info_iz _ n ls rfl A1.out ⟨W1.heap.size,0,none⟩ 1 (c : Nat) rfl A2.out (by omega) A3.out ?_;intro g cap w3 ho3 hg3 hl3 hlt3))
    have HE : Hid (Below w.heap.size w w3):=HBA.out.grown hg3 A3.out (fun b hb=>(A1.out.lt b hb).1)
    refine ⟨⟨p + 1,by go_num,by omega,ls ++ [(c : Int)],f - 1,?_,HE.out,?_,by omega,by rw [List.length_append,<- HN.out];simp;omega⟩,by simp [intOf] <;> omega⟩
    ·rw [List.length_append,<- HN.out];exact ho3
    ·rw [HL.out,HLT.out,List.append_assoc];rfl
   ·have hk1 : 1 <= k := by omega
    have ek : ((k : Int) == 0) = false:=by simp;omega
    have hmx : Hid (max 1 k = k):=Nat.max_eq_right hk1
    rw [hmx.out] at HLT
    clear hk
    go_wp2_with (first
     | (go_at_call 141;(with_reducible refine C.out.mono ?_);rintro e W1 ⟨rfl,kd,hw1⟩;have b1 : Below wr.heap.size wr W1:=(by rw [hw1];exact Bd wr kd);have HB1:=hid (Bt HB.out b1);have HO1:=hid (own_at HO.out (fun b e=>b1.block b (HO.out.lt b e).2));obtain ⟨a1,a2,a3⟩:=arm.out W1 HB1.out (by rw [hw1];rfl) HO1.out;have A1:=hid a1;have A2:=hid a2;have A3:=hid a3;have HBA:=hid (Bt HB1.out (Ba W1 (.cells #[.int .i64 (c : Nat)] 3)));clear b1 hw1 a1 a2 a3)
     | (at_builtin;refine appi rfl _ _ 32 rfl w.heap.size 3 Tryz.underlying32 info_iz _ n ls rfl A1.out ⟨W1.heap.size,0,none⟩ 1 (c : Nat) rfl A2.out (by omega) A3.out ?_;intro g cap w3 ho3 hg3 hl3 hlt3))
    have HE : Hid (Below w.heap.size w w3):=HBA.out.grown hg3 A3.out (fun b hb=>(A1.out.lt b hb).1)
    refine ⟨⟨p + k,by go_num,by omega,ls ++ [(c : Int)],f - 1,?_,HE.out,?_,by omega,by rw [List.length_append,<- HN.out];simp;omega⟩,by simp [intOf] <;> omega⟩
    ·rw [List.length_append,<- HN.out];exact ho3
    ·rw [HL.out,HLT.out,List.append_assoc];rfl
  ·go_wp2_with fail
   go_ret
   have he : ltF s f p = []:=by
    cases f with
    | zero=>rfl
    | succ f=>rw [ltF,if_neg hlt]
   have hl:=HL.out
   rw [he,List.append_nil] at hl
   rw [hl]
   exact ⟨_,rfl,HO.out,HB.out⟩
def mgF : Nat -> Nat -> List Nat
 | 0,_=>[]
 | f + 1,v=>if v = 0 then [] else (v % B32) :: mgF f (v / B32)
def mg (v : Nat) : List Nat:=mgF v v
theorem mgF_ok : ∀ f v,v <= f -> Dg B32 (mgF f v) /\ Tr (mgF f v) /\ val B32 (mgF f v) = v /\ (v ≠ 0 -> mgF f v ≠ [])
 | 0,v,h=>by
  obtain rfl : v = 0:=by omega
  exact ⟨Dg.nil _,Tr.nil,rfl,fun h=>absurd rfl h⟩
 | f + 1, v, h => by
  have hB : B32 = 4294967296:=rfl
  by_cases hv : v = 0
  ·subst hv;simp [mgF,val];exact ⟨Dg.nil _,Tr.nil⟩
  ·obtain ⟨h1, h2, h3, h4⟩ := mgF_ok f (v / B32) (by rw [hB]; omega)
   have e : mgF (f + 1) v = (v % B32) :: mgF f (v / B32):=by simp [mgF,hv]
   rw [e]
   refine ⟨fun x hx=>?_,.inr ?_,?_,fun _=>by simp⟩
   ·rcases List.mem_cons.1 hx with rfl | hx
    ·rw [hB];omega
    ·exact h1 x hx
   ·by_cases h0 : v / B32 = 0
    ·have : mgF f (v / B32) = [] := by rw [h0]; cases f <;> simp [mgF]
     rw [this];simp;rw [hB] at h0 ⊢;omega
    ·have hne := h4 h0
     have:=h2.resolve_left hne
     obtain ⟨n,hn⟩ : ∃ n,(mgF f (v / B32)).length = n + 1:=⟨(mgF f (v / B32)).length - 1,by have:=List.length_pos_iff.2 hne;omega⟩
     rw [List.length_cons,hn]
     rw [hn] at this
     simpa using this
   ·rw [val_cons,h3,hB];omega
theorem mg_is {l : List Nat} {v : Nat} (hd : Dg B32 l) (ht : Tr l) (hv : val B32 l = v) : l = mg v:=by
 obtain ⟨h1,h2,h3,_⟩:=mgF_ok v v (Nat.le_refl _)
 exact digits_unique (by decide) hd h1 ht h2 (hv.trans h3.symm)
def FixPost (z : Int) (w : World) (e : Ending) (w' : World) : Prop:=∃ v,e = .returned (.tuple #[.int .i64 v,.bool (fixB z)]) /\ (fixB z = true -> v = z) /\ Below w.heap.size w w'
theorem fixed_any (neg : Bool) (ao : Option Addr) (n cap : Nat) (l : List Nat) (w : World) (R : Row .u32 B32 w ao n cap l) (g : goodB neg l = true) :
  Calls Tryz.prog 99 #[.agg #[.bool neg,.slice ao n cap]] w fun e w'=>FixPost (sgn neg (val B32 l)) w e w':=by
 have b0:=Ba w (.cells #[.bool neg,.slice ao n cap] 104)
 have C:=hid (rto_any neg ao n cap l (w.alloc (.cells #[.bool neg,.slice ao n cap] 104)) (R.below b0) g)
 unfold ToPost at C
 have hx:=blk_new w #[.bool neg,.slice ao n cap] 104
 have c0 : (w.alloc (.cells #[.bool neg,.slice ao n cap] 104)).cell? ⟨w.heap.size,0,none⟩ = some (.bool neg):=blk_cell hx 0
 have c1 : (w.alloc (.cells #[.bool neg,.slice ao n cap] 104)).cell? ⟨w.heap.size,1,none⟩ = some (.slice ao n cap):=blk_cell hx 1
 have HB:=hid b0
 obtain ⟨z,hz⟩ : ∃ z,z = sgn neg (val B32 l):=⟨_,rfl⟩
 rw [<- hz] at C ⊢
 clear R g hx b0 hz
 by_cases hf : fits z = true
 ·rw [hf] at C
  obtain ⟨h1,h2⟩:=of_decide_eq_true hf
  clear hf
  by_cases k1 : -1152921504606846976 <= z
  ·by_cases k2 : z < 1152921504606846976
   ·have HFX : Hid (fixB z = true) := by unfold Hid fixB; rw [decide_eq_true k1, decide_eq_true k2]; rfl
    go_enter Tryz.func99,Tryz.ntmps99
    go_wp2_with (go_at_call 151;(with_reducible refine C.out.mono ?_);rintro e W1 ⟨v,rfl,hv,b1⟩;rw [hv rfl];have HB1:=hid (Bt HB.out b1);clear b1 hv)
    go_ret2
    unfold FixPost;rw [HFX.out];exact ⟨_,rfl,fun _=>rfl,HB1.out⟩
   ·have HFX : Hid (fixB z = false) := by unfold Hid fixB; rw [decide_eq_false k2]; simp
    have k2d : decide (z < 1152921504606846976) = false:=decide_eq_false k2
    go_enter Tryz.func99,Tryz.ntmps99
    go_wp2_with (go_at_call 151;(with_reducible refine C.out.mono ?_);rintro e W1 ⟨v,rfl,hv,b1⟩;rw [hv rfl];have HB1:=hid (Bt HB.out b1);clear b1 hv)
    go_ret2
    unfold FixPost;rw [HFX.out];exact ⟨_,rfl,fun h=>(by cases h),HB1.out⟩
  ·have HFX : Hid (fixB z = false) := by unfold Hid fixB; rw [decide_eq_false k1]; simp
   have k1d : decide (-1152921504606846976 <= z) = false:=decide_eq_false k1
   go_enter Tryz.func99,Tryz.ntmps99
   go_wp2_with (go_at_call 151;(with_reducible refine C.out.mono ?_);rintro e W1 ⟨v,rfl,hv,b1⟩;rw [hv rfl];have HB1:=hid (Bt HB.out b1);clear b1 hv)
   go_ret2
   unfold FixPost;rw [HFX.out];exact ⟨_,rfl,fun h=>(by cases h),HB1.out⟩
 ·have hf' : fits z = false := by simpa using hf
  rw [hf'] at C
  have HFX : Hid (fixB z = false):=by
   unfold Hid fixB
   have:=of_decide_eq_false hf'
   by_cases k1 : -1152921504606846976 <= z
   ·rw [decide_eq_true k1,decide_eq_false (by omega)];rfl
   ·rw [decide_eq_false k1];rfl
  clear hf hf'
  go_enter Tryz.func99,Tryz.ntmps99
  go_wp2_with (go_at_call 151;(with_reducible refine C.out.mono ?_);rintro e W1 ⟨v,rfl,hv,b1⟩;have HB1:=hid (Bt HB.out b1);clear b1 hv)
  go_ret2
  unfold FixPost;rw [HFX.out];exact ⟨_,rfl,fun h=>(by cases h),HB1.out⟩
def txZ (t : ByteArray) : Int:=sgn ((cutS (bs t)).1 && decide (hv 10 (cutS (bs t)).2 ≠ 0)) (hv 10 (cutS (bs t)).2)
theorem txt_parse (t : ByteArray) (ht : t.size <= 5000) (hp : printedB t = true) (w : World) : Calls Tryz.prog 80 #[.string t,.int .i64 10] w fun e w'=>∃ neg ao n cap l,e = .returned (.tuple #[.agg #[.bool neg,.slice ao n cap],.int .i64 0]) /\ Row .u32 B32 w' ao n cap l /\ goodB neg l = true /\ sgn neg (val B32 l) = txZ t /\ l = mg (txZ t).natAbs /\ n <= 40 /\ Below w.heap.size w w':=by
 refine (rparse_any t 10 w ht).mono ?_
 rintro e w' ⟨x,en,rfl,hb,h⟩
 unfold printedB at hp
 simp only [Bool.and_eq_true,decide_eq_true_eq] at hp
 obtain ⟨⟨p1,p2⟩,p3⟩:=hp
 rcases h with ⟨h1,_⟩ | ⟨_,h2,_⟩ | ⟨_,_,h⟩
 ·exact absurd ⟨by omega,by omega⟩ h1
 ·rw [p1] at h2;cases h2
 ·rcases ans_int h with ⟨a1, a2, ao, n, cap, l, rfl, R, g, hvl, hn⟩ | ⟨a1, _⟩
  ·subst a2
   have hv' : val B32 l = hv 10 (cutS (bs t)).2:=hvl
   refine ⟨_,ao,n,cap,l,rfl,R,g,?_,?_,hn,hb⟩
   ·unfold txZ;rw [hv'];rfl
   ·refine mg_is R.dg (goodB_tr g) ?_
    unfold txZ;rw [show ∀ (b : Bool) (v : Nat),(sgn b v).natAbs = v from fun b v=>by cases b <;> simp [sgn]];exact hv'
  ·exact absurd p2 (by unfold Big at a1;show ¬ hv 10 (cutS (bs t)).2 < B32 ^ 40;exact Nat.not_lt.2 a1)
def NdVal (d : Nd) (ka : Option Addr) (kc : Nat) : Value:=.agg #[.int .i64 d.kind,.int .i64 d.num,.string d.text,.slice ka d.kids.length kc]
def sizeN (d : Nd) : Int :=
 if d.kind = 1 \/ d.kind = 2 \/ d.kind = 4 \/ d.kind = 6 \/ d.kind = 10 \/ d.kind = 11 then (0 : Int)
 else if d.kind = 3 then (if fixB (txZ d.text) = true then 0 else 2 + (((mg (txZ d.text).natAbs).length : Nat) : Int))
 else if d.kind = 5 then 1 + (((ltrs d.text).length : Nat) : Int)
 else if d.kind = 7 \/ d.kind = 8 then 1 + ((d.kids.length : Nat) : Int)
 else if d.kind = 9 then 1 + ((d.text.size : Nat) : Int) else (-1 : Int)
theorem slice_form {w : World} {base : Nat} {e : TypeId} {k : Nat} {v : Value} {n : Nat} {xs : List Value} (h : w.ownsRow base e k v n xs) : ∃ a c,v = .slice a n c /\ n <= c /\ c <= 9223372036854775807:=by
 rcases h.2 with ⟨e1,e2⟩ | ⟨g,cap,cur,e1,_,_,h4,h5,_⟩
 ·subst e2;exact ⟨none,0,e1,Nat.le_refl _,by omega⟩
 ·unfold maxLen at h5;exact ⟨_,_,e1,h4,h5⟩
set_option maxHeartbeats 4000000 in
theorem size_any (d : Nd) (ka : Option Addr) (kc : Nat) (w : World) (hkd : I64 d.kind) (htx : d.text.size <= 5000) (hkk : d.kids.length <= kc) (hkc : kc <= 9223372036854775807) (hks : d.kids.length <= 1000000) (hp : d.kind = 3 -> printedB d.text = true) :
  Calls Tryz.prog 91 #[NdVal d ka kc] w fun e w'=>e = .returned (.int .i64 (sizeN d)) /\ Below w.heap.size w w':=by
 have HB:=hid (Ba w (.cells #[.int .i64 d.kind,.int .i64 d.num,.string d.text,.slice ka d.kids.length kc] 54))
 have hx:=blk_new w #[.int .i64 d.kind,.int .i64 d.num,.string d.text,.slice ka d.kids.length kc] 54
 have HX:=hid hx
 have HSZ : Hid (sizeN d = if d.kind = 1 \/ d.kind = 2 \/ d.kind = 4 \/ d.kind = 6 \/ d.kind = 10 \/ d.kind = 11 then (0 : Int)
  else if d.kind = 3 then (if fixB (txZ d.text) = true then 0 else 2 + (((mg (txZ d.text).natAbs).length : Nat) : Int))
  else if d.kind = 5 then 1 + (((ltrs d.text).length : Nat) : Int)
  else if d.kind = 7 \/ d.kind = 8 then 1 + ((d.kids.length : Nat) : Int)
  else if d.kind = 9 then 1 + ((d.text.size : Nat) : Int) else (-1 : Int)):=rfl
 have HP:=hid hp
 unfold NdVal
 obtain ⟨dk,dn,dt,dl⟩:=d
 simp only at HB HX HSZ HP htx hkk hks hkd hx ⊢
 have c0 : (w.alloc (.cells #[.int .i64 dk,.int .i64 dn,.string dt,.slice ka dl.length kc] 54)).cell? ⟨w.heap.size,0,none⟩ = some (.int .i64 dk):=blk_cell hx 0
 have c2 : (w.alloc (.cells #[.int .i64 dk,.int .i64 dn,.string dt,.slice ka dl.length kc] 54)).cell? ⟨w.heap.size,2,none⟩ = some (.string dt):=blk_cell hx 2
 have c3 : (w.alloc (.cells #[.int .i64 dk,.int .i64 dn,.string dt,.slice ka dl.length kc] 54)).cell? ⟨w.heap.size,3,none⟩ = some (.slice ka dl.length kc):=blk_cell hx 3
 obtain ⟨kn,hkn⟩ : ∃ n,n = dl.length:=⟨_,rfl⟩
 rw [<- hkn] at HB HX HSZ c0 c2 c3 hkk hks ⊢
 clear hx hp hkn
 by_cases k1 : dk = 1
 ·subst k1
  have he : Hid (sizeN ⟨1,dn,dt,dl⟩ = 0):=HSZ.out.trans (if_pos (by omega))
  go_enter Tryz.func91,Tryz.ntmps91
  go_wp2_with fail
  go_ret
  rw [he.out]
  exact ⟨rfl,HB.out⟩
 by_cases k2 : dk = 2
 ·subst k2
  have he : Hid (sizeN ⟨2,dn,dt,dl⟩ = 0):=HSZ.out.trans (if_pos (by omega))
  go_enter Tryz.func91,Tryz.ntmps91
  go_wp2_with fail
  go_ret
  rw [he.out]
  exact ⟨rfl,HB.out⟩
 by_cases k4 : dk = 4
 ·subst k4
  have he : Hid (sizeN ⟨4,dn,dt,dl⟩ = 0):=HSZ.out.trans (if_pos (by omega))
  go_enter Tryz.func91,Tryz.ntmps91
  go_wp2_with fail
  go_ret
  rw [he.out]
  exact ⟨rfl,HB.out⟩
 by_cases k6 : dk = 6
 ·subst k6
  have he : Hid (sizeN ⟨6,dn,dt,dl⟩ = 0):=HSZ.out.trans (if_pos (by omega))
  go_enter Tryz.func91,Tryz.ntmps91
  go_wp2_with fail
  go_ret
  rw [he.out]
  exact ⟨rfl,HB.out⟩
 by_cases k10 : dk = 10
 ·subst k10
  have he : Hid (sizeN ⟨10,dn,dt,dl⟩ = 0):=HSZ.out.trans (if_pos (by omega))
  go_enter Tryz.func91,Tryz.ntmps91
  go_wp2_with fail
  go_ret
  rw [he.out]
  exact ⟨rfl,HB.out⟩
 by_cases k11 : dk = 11
 ·subst k11
  have he : Hid (sizeN ⟨11,dn,dt,dl⟩ = 0):=HSZ.out.trans (if_pos (by omega))
  go_enter Tryz.func91,Tryz.ntmps91
  go_wp2_with fail
  go_ret
  rw [he.out]
  exact ⟨rfl,HB.out⟩
 rw [if_neg (by omega)] at HSZ
 by_cases k3 : dk = 3
 ·subst k3
  rw [if_pos rfl] at HSZ
  have CP:=hid (txt_parse dt htx (HP.out rfl) (w.alloc (.cells #[.int .i64 3,.int .i64 dn,.string dt,.slice ka kn kc] 54)))
  go_enter Tryz.func91,Tryz.ntmps91
  go_wp2_with (go_at_call 80;(with_reducible refine CP.out.mono ?_);rintro e W1 ⟨neg,ao,n,cap,l,rfl,R,g,hz,hl,hn,b1⟩;have HB1:=hid (Bt HB.out b1);have HB2:=hid (Ba W1 (.cells #[.bool neg,.slice ao n cap] 104));have hxi:=blk_new W1 #[.bool neg,.slice ao n cap] 104;have HXI:=hid hxi;have i0 : (W1.alloc (.cells #[.bool neg,.slice ao n cap] 104)).cell? ⟨W1.heap.size,0,none⟩ = some (.bool neg):=blk_cell hxi 0;have i1 : (W1.alloc (.cells #[.bool neg,.slice ao n cap] 104)).cell? ⟨W1.heap.size,1,none⟩ = some (.slice ao n cap):=blk_cell hxi 1;have CF:=hid (fixed_any neg ao n cap l (W1.alloc (.cells #[.bool neg,.slice ao n cap] 104)) (R.below HB2.out) g);rw [hz] at CF;unfold FixPost at CF;have hnl:=R.len;rw [hl] at hnl;have HNL:=hid hnl;have hnc:=R.fits;have hnm:=R.most;clear R g hz hl b1 hxi hnl)
  have HBX : Hid (∀ W2,Below (W1.alloc (.cells #[.bool neg,.slice ao n cap] 104)).heap.size (W1.alloc (.cells #[.bool neg,.slice ao n cap] 104)) W2 -> W2.cell? ⟨W1.heap.size,1,none⟩ = some (.slice ao n cap)):=fun W2 b=>blk_cell ((b.block W1.heap.size (by rw [size_alloc];omega)).trans HXI.out) 1
  unfold maxLen at hnm
  have HW : Hid (Below w.heap.size w (W1.alloc (.cells #[.bool neg,.slice ao n cap] 104))):=Bt HB1.out HB2.out
  obtain ⟨fb,hfb⟩ : ∃ b,b = fixB (txZ dt):=⟨_,rfl⟩
  rw [<- hfb] at CF HSZ
  clear hfb
  cases fb
  ·rw [if_neg (by simp)] at HSZ
   go_wp2_with (go_at_call 99;(with_reducible refine CF.out.mono ?_);rintro e W2 ⟨v,rfl,_,b2⟩;have d1:=HBX.out W2 b2;have HB3:=hid (Bt HW.out b2);clear b2)
   go_ret
   rw [HSZ.out,HNL.out]
   exact ⟨rfl,HB3.out⟩
  ·rw [if_pos rfl] at HSZ
   go_wp2_with (go_at_call 99;(with_reducible refine CF.out.mono ?_);rintro e W2 ⟨v,rfl,_,b2⟩;have HB3:=hid (Bt HW.out b2);clear b2)
   go_ret
   rw [HSZ.out]
   exact ⟨rfl,HB3.out⟩
 rw [if_neg k3] at HSZ
 by_cases k5 : dk = 5
 ·subst k5
  rw [if_pos rfl] at HSZ
  have CL:=hid (letters_any dt (by omega) (w.alloc (.cells #[.int .i64 5,.int .i64 dn,.string dt,.slice ka kn kc] 54)))
  have hll:=ltrs_len dt
  obtain ⟨n,hn⟩ : ∃ n,n = (ltrs dt).length:=⟨_,rfl⟩
  rw [<- hn] at CL HSZ hll
  clear hn
  go_enter Tryz.func91,Tryz.ntmps91
  go_wp2_with (go_at_call 145;(with_reducible refine CL.out.mono ?_);rintro e W1 ⟨v,rfl,hv,b1⟩;obtain ⟨av,cv,rfl,hvf,hvm⟩:=slice_form hv;have HB1:=hid (Bt HB.out b1);clear hv b1)
  go_ret
  rw [HSZ.out]
  exact ⟨rfl,HB1.out⟩
 rw [if_neg k5] at HSZ
 by_cases k7 : dk = 7
 ·subst k7
  rw [if_pos (by omega)] at HSZ
  go_enter Tryz.func91,Tryz.ntmps91
  go_wp2_with fail
  go_ret
  rw [HSZ.out]
  exact ⟨rfl,HB.out⟩
 by_cases k8 : dk = 8
 ·subst k8
  rw [if_pos (by omega)] at HSZ
  go_enter Tryz.func91,Tryz.ntmps91
  go_wp2_with fail
  go_ret
  rw [HSZ.out]
  exact ⟨rfl,HB.out⟩
 rw [if_neg (by omega)] at HSZ
 by_cases k9 : dk = 9
 ·subst k9
  rw [if_pos rfl] at HSZ
  go_enter Tryz.func91,Tryz.ntmps91
  go_wp2_with fail
  go_ret
  rw [HSZ.out]
  exact ⟨rfl,HB.out⟩
 rw [if_neg k9] at HSZ
 have e1 : (dk == 1) = false:=by simpa using k1
 have e2 : (dk == 2) = false:=by simpa using k2
 have e3 : (dk == 3) = false:=by simpa using k3
 have e4 : (dk == 4) = false:=by simpa using k4
 have e5 : (dk == 5) = false:=by simpa using k5
 have e6 : (dk == 6) = false:=by simpa using k6
 have e7 : (dk == 7) = false:=by simpa using k7
 have e8 : (dk == 8) = false:=by simpa using k8
 have e9 : (dk == 9) = false:=by simpa using k9
 have e10 : (dk == 10) = false:=by simpa using k10
 have e11 : (dk == 11) = false:=by simpa using k11
 clear k1 k2 k3 k4 k5 k6 k7 k8 k9 k10 k11
 go_enter Tryz.func91,Tryz.ntmps91
 go_wp2_with fail
 go_ret
 rw [HSZ.out]
 exact ⟨rfl,HB.out⟩
theorem info_pair : (Tryz.prog.info? 115).map (fun i=>(i.zero,i.size,i.bytes)) = some (some (.agg #[.int .u64 0,.int .u64 0]),2,16):=by kernel_rfl
section
variable {P : Program} {w : World} {ops : Array Oper} {o : Oper} {a : Act} {K : Act -> World -> Prop} {Q : Exit -> Act -> World -> Prop} {E : Prop}
theorem stepPair (dst : Option Nat) (hdst : o.dst = dst) (hgd : o.guard = none) (s x : Operand) (t : TypeId) (ho : o.op = .call { callee:=.builtin .append,args:=#[s,x],argTypes:=#[t,t] })
  (base : Nat) (e : TypeId) (ht : P.underlying t = some (.slice e)) (hi : (P.info? e).map (fun i=>(i.zero,i.size,i.bytes)) = some (some (.agg #[.int .u64 0,.int .u64 0]),2,16))
  (v : Value) (n : Nat) (l : List (Int × Int)) (hs : a.eval s = v) (hown : w.ownsRow base e 2 v n (pz l))
  (g0 c : Nat) (d : Int × Int) (hx : a.eval x = .slice (some ⟨g0,0,none⟩) 1 c) (hd : w.heap[g0]? = some (.cells #[.int .u64 d.1,.int .u64 d.2] e (0,0))) (hsm : n <= 10000000) (hbase : base <= w.heap.size)
  (h : ∀ g cap w',w'.ownsRow base e 2 (.slice (some ⟨g,0,none⟩) (n + 1) cap) (n + 1) (pz (l ++ [d])) -> w.grownBy w' v.ownBlock -> (v.ownBlock = some g \/ g = w.heap.size) -> g < w'.heap.size -> K (a.put dst (.slice (some ⟨g,0,none⟩) (n + 1) cap)) w') :
  if Region.wanted o (yielded ops a.tmps) = true then Oper.wp P o a w K Q else E:=by
 subst hdst
 have hw : Region.wanted o (yielded ops a.tmps) = true:=by simp [Region.wanted,hgd]
 rw [if_pos hw]
 obtain ⟨i0,hi0,hz0,hz1,hz2⟩:=info_parts hi
 refine wp_append_lies w s x t ho base e i0 _ 2 16 ht hi0 hz0 hz1 hz2 rfl (by decide) v n (pz l) hs hown ⟨g0,0,none⟩ 1 c (pz [d]) hx rfl ?_ ?_ (by decide) (by unfold maxLen;omega) (by omega) hbase w.heap.size rfl ?_
 ·intro j u hj
  have hc:=blk_cell hd j
  have e1 : (#[Value.int .u64 d.1,.int .u64 d.2])[j]? = (pz [d])[j]?:=by simp [pz]
  rw [e1,hj] at hc
  unfold Addr.add
  by_cases hj0 : j = 0
  ·subst hj0;simpa using hc
  ·rw [if_neg hj0];simpa using hc
 ·intro u hu;simp [pz] at hu;rcases hu with rfl | rfl <;> rfl
 ·intro g cap w' h1 h2 h3 h4
  refine h g cap w' ?_ h2 h3 h4
  rw [pz_append];exact h1
end
structure MZ (os : List Ob) (a0 b0 : Int) (cur : Int × Int -> Prop) (M b : Nat) (w0 : World) (v : Value) (S : US) (w : World) : Prop where
 mt : MT b w0 v S.vO S.q S.L S.hq S.op w
 mg : MG os a0 b0 cur M S
def MePost (os : List Ob) (a0 b0 : Int) (cur : Int × Int -> Prop) (M b : Nat) (w0 : World) (v : Value) (S : US) (x y : Int) (bb : Bool) (w' : World) : Prop :=
 ∃ S',MZ os a0 b0 cur M b w0 v S' w' /\ (∀ u z,S.root u = S.root z -> S'.root u = S'.root z) /\ (bb = true -> S'.root x = S'.root y) /\ (bb = false -> ¬ Alike (hpO os) x y)
def MeEnd (os : List Ob) (a0 b0 : Int) (cur : Int × Int -> Prop) (M b : Nat) (w0 : World) (v : Value) (S : US) (x y : Int) (e : Ending) (w' : World) : Prop:=∃ bb,e = .returned (.bool bb) /\ MePost os a0 b0 cur M b w0 v S x y bb w'
section
variable {B : Nat} {v : Value} {N : Int} {os : List Ob} {F : Nat -> Prop} {a0 b0 : Int} {cur : Int × Int -> Prop} {M : Nat} {w0 : World} {S : US}
set_option maxHeartbeats 8000000 in
theorem emeet_any (x y : Int) (hx : U64 x) (hy : U64 y) (w : World) (h0 : HE B v N os F w0) (h : MZ os a0 b0 cur M w0.heap.size w0 v S w) (ha : Alike (hpO os) a0 b0 -> Alike (hpO os) x y) (hMM : M <= 10000000) :
  Calls Tryz.prog 56 #[.pointer (some ⟨w0.heap.size + 2,0,none⟩),.int .u64 x,.int .u64 y] w (MeEnd os a0 b0 cur M w0.heap.size w0 v S x y):=by
 have hus:=h0.used
 have hl:=h.mt.lt
 have hbw:=h.mt.bel
 by_cases hxy : x = y
 ·have e1 : (x == y) = true := by simp [hxy]
  have HP : Hid (MePost os a0 b0 cur M w0.heap.size w0 v S x y true w):=⟨S,h,fun _ _ e=>e,fun _=>by rw [hxy],fun e=>by cases e⟩
  clear h h0 ha hx hy hxy hus hl hbw
  go_enter Tryz.func56,Tryz.ntmps56
  go_wp2_with fail
  go_ret
  exact ⟨true,rfl,HP.out⟩
 have e1 : (x == y) = false:=by simp [hxy]
 obtain ⟨bA,hbA⟩ : ∃ b,b = w0.heap.size:=⟨_,rfl⟩
 rw [<- hbA] at h hl hbw ⊢
 obtain ⟨gp,hgp⟩ : ∃ g,g = w.heap.size:=⟨_,rfl⟩
 obtain ⟨W1,hW1⟩ : ∃ W,W = w.alloc (.cells #[.int .u64 x,.int .u64 y] 115):=⟨_,rfl⟩
 have hb1 : Below w.heap.size w W1:=by rw [hW1];exact Ba w _
 have hs1 : W1.heap.size = gp + 1:=by rw [hW1,size_alloc,hgp]
 have hp1 : W1.heap[gp]? = some (.cells #[.int .u64 x,.int .u64 y] 115 (0,0)):=by rw [hW1,hgp];exact blk_new _ _ _
 have h1:=h.mt.on hb1
 have hlook : ∀ wx,Below W1.heap.size W1 wx -> (Instr.lookup 109 (.map (some bA)) (.agg #[.int .u64 x,.int .u64 y]) true).run Tryz.prog wx = .ok (.tuple #[.agg #[],.bool (decide ((x,y)∈S.hq))]) wx:=fun wx hb=>(h1.on hb).mh.look hx hy
 have hr1 : (Instr.lookup 109 (.map (some bA)) (.agg #[.int .u64 x,.int .u64 y]) true).run Tryz.prog W1.drew = .ok (.tuple #[.agg #[],.bool (decide ((x,y)∈S.hq))]) W1.drew:=hlook _ (Bd W1 1)
 have hr2 : ∀ ob,(Instr.lookup 109 (.map (some bA)) (.agg #[.int .u64 x,.int .u64 y]) true).run Tryz.prog (W1.alloc ob).drew = .ok (.tuple #[.agg #[],.bool (decide ((x,y)∈S.hq))]) (W1.alloc ob).drew:=fun ob=>hlook _ (Bt (Ba W1 ob) (Bd _ 1))
 have c1 : W1.cell? ⟨bA + 2,1,none⟩ = some (.map (some bA)):=blk_cell h1.box 1
 have p0 : W1.cell? ⟨gp,0,none⟩ = some (.int .u64 x):=blk_cell hp1 0
 have p1 : W1.cell? ⟨gp,1,none⟩ = some (.int .u64 y):=blk_cell hp1 1
 have n1 : ∀ ob,(W1.alloc ob).cell? ⟨bA + 2,1,none⟩ = some (.map (some bA)):=fun ob=>blk_cell (h1.on (Ba W1 ob)).box 1
 have n2 : ∀ ob,(W1.alloc ob).cell? ⟨gp,0,none⟩ = some (.int .u64 x):=fun ob=>((Ba W1 ob).cell (p:=⟨gp,0,none⟩) (cell_lt p0)).trans p0
 have n3 : ∀ ob,(W1.alloc ob).cell? ⟨gp,1,none⟩ = some (.int .u64 y):=fun ob=>((Ba W1 ob).cell (p:=⟨gp,1,none⟩) (cell_lt p1)).trans p1
 obtain ⟨bh,hbh⟩ : ∃ b,b = decide ((x,y)∈S.hq):=⟨_,rfl⟩
 rw [<- hbh] at hr1 hr2
 have HBH:=hid hbh
 have HM:=hid h
 have HW1:=hid hW1
 have HH0:=hid h0
 have HXY:=hid hxy
 have HX:=hid hx
 have HY:=hid hy
 have HAL:=hid ha
 have HP1:=hid hp1
 have HS1:=hid hs1
 have HGP:=hid hgp
 have HB1:=hid hb1
 have HT1:=hid h1
 have HBA:=hid hbA
 rw [hW1,hgp] at p0 p1 n2 n3
 rw [hW1] at hr1 hr2 c1 n1
 clear h h0 ha hx hy hxy hbh hW1 hp1 hs1 hgp hb1 h1 hlook hbA hbw
 go_enter Tryz.func56,Tryz.ntmps56
 go_wp2_with fail
 go_region
 obtain ⟨W2,hW2⟩ : ∃ W,W = ((w.alloc (.cells #[.int .u64 x,.int .u64 y] 115)).alloc (.cells #[] 168)).drew:=⟨_,rfl⟩
 rw [<- hW2]
 have hb2 : Below W1.heap.size W1 W2:=by rw [hW2,<- HW1.out];exact Bt (Ba W1 _) (Bd _ 1)
 have HT2:=hid (HT1.out.on hb2)
 have hs2:=hb2.size
 have HP2 : Hid (W2.heap[gp]? = some (.cells #[.int .u64 x,.int .u64 y] 115 (0,0))):=(hb2.block gp (by rw [HS1.out];omega)).trans HP1.out
 have HG2 : Hid (bA + 3 <= gp /\ gp < W2.heap.size):=⟨by rw [HGP.out];exact hl,by rw [HS1.out] at hs2;omega⟩
 have hgp:=HGP.out
 rw [<- hgp]
 have hpush:=HM.out.mg
 have HMG:=hid hpush
 have c0 : W2.cell? ⟨bA + 2,0,none⟩ = some v:=blk_cell HT2.out.box 0
 clear hb2 hs2 hW2 c1 p0 p1 n1 n2 n3 hr1 hr2 HB1 HP1 HS1 HW1 HT1 hgp HGP HM hl hpush
 cases bh
 ·have CM := hid (emay_any x y HX.out HY.out W2 (HH0.out.on (by rw [<- HBA.out]; exact HT2.out.bel)))
  have hmi:=mayB_iff HH0.out.fine x y
  obtain ⟨mb,hmb⟩ : ∃ b,b = mayB os x y:=⟨_,rfl⟩
  rw [<- hmb] at CM hmi
  have HMI:=hid hmi
  clear hmi hmb
  obtain ⟨gh,hgh⟩:=HH0.out.ph.ptr
  cases mb
  ·have HNA : Hid (¬ Alike (hpO os) x y) := fun e => by have := HMI.out.2 (e.may HXY.out); cases this
   subst hgh
   go_wp2_with (go_at_call 101;(with_reducible refine CM.out.mono ?_);rintro e W3 ⟨rfl,b3⟩;have HT3:=hid (HT2.out.on b3);clear b3)
   go_ret
   exact ⟨false,rfl,S,⟨HT3.out,HMG.out⟩,fun _ _ e=>e,fun e=>(by cases e),fun _=>HNA.out⟩
  ·have hmay := HMI.out.1 rfl
   have HMAY:=hid hmay
   have hnm : (x,y) ∉ S.hq:=of_decide_eq_false HBH.out.symm
   have HNM:=hid hnm
   have hql:=HMG.out.qlen hus
   have hhl:=HMG.out.hlen hus
   have ST : Hid (∀ W3,Below W2.heap.size W2 W3 -> ∃ w4,(Instr.mapUpdate 109 (.map (some bA)) (.agg #[.int .u64 x,.int .u64 y]) (.agg #[])).run Tryz.prog W3.drew = .ok () w4 /\ W3.cell? ⟨bA + 2,1,none⟩ = some (.map (some bA)) /\ W3.cell? ⟨gp,0,none⟩ = some (.int .u64 x) /\ W3.cell? ⟨gp,1,none⟩ = some (.int .u64 y) /\ MT bA w0 v S.vO S.q S.L (S.hq ++ [(x,y)]) S.op w4 /\ w4.heap[gp]? = some (.cells #[.int .u64 x,.int .u64 y] 115 (0,0)) /\ gp < w4.heap.size):=fun W3 hb=>by
    have hg:=HG2.out
    have h3:=HT2.out.on hb
    have h3d:=h3.on (Bd W3 1)
    have hp3:=(hb.block gp hg.2).trans HP2.out
    obtain ⟨w4,hst,hm4,hg4⟩:=h3d.mh.store HX.out HY.out HNM.out (by omega)
    have hs4 : W3.drew.heap.size <= w4.heap.size:=hg4.size
    have hs3:=hb.size
    have hlt3 : gp < W3.drew.heap.size:=Nat.lt_of_lt_of_le hg.2 hs3
    refine ⟨w4,hst,blk_cell h3.box 1,blk_cell hp3 0,blk_cell hp3 1,h3d.turnH hg4 hm4,(hg4.block gp hlt3 (fun e=>?_)).trans hp3,by omega⟩
    have:=Option.some.inj e
    omega
   subst hgh
   go_wp2_with (go_at_call 101;(with_reducible refine CM.out.mono ?_);rintro e W3 ⟨rfl,b3⟩;obtain ⟨w4,hst,d1,d2,d3,m4,q4,l4⟩:=ST.out W3 b3;have HT4:=hid m4;have HQ4:=hid q4;have HL4:=hid l4;clear b3 m4 q4 l4)
   go_region
   have CJ:=hid (ejoin_any (O:=hpO os) x y HX.out HY.out w4 HT4.out HMG.out.fo (by omega))
   clear ST hst d1 d2 d3
   by_cases hrr : S.root x = S.root y
   ·have ed : decide (S.root x ≠ S.root y) = false := decide_eq_false (fun e => e hrr)
    rw [ed] at CJ
    have HRR:=hid hrr
    clear hrr ed hmay hnm hql hhl
    go_wp2_with (go_at_call 102;(with_reducible refine CJ.out.mono ?_);rintro e W5 ⟨rfl,j5,_⟩;unfold JPost at j5;rw [if_pos HRR.out] at j5;have HJ:=hid j5;clear j5)
    obtain ⟨L',d',m5,f5⟩:=HJ.out
    go_ret
    exact ⟨true,rfl,⟨S.root,d',L',S.q,S.hq ++ [(x,y)],S.op,S.G,S.vO⟩,⟨m5,HMG.out.same HMAY.out HX.out HY.out HNM.out HRR.out f5⟩,fun _ _ e=>e,fun _=>HRR.out,fun e=>(by cases e)⟩
   ·have ed : decide (S.root x ≠ S.root y) = true := decide_eq_true hrr
    rw [ed] at CJ
    have HRR:=hid hrr
    clear hrr ed hmay hnm
    go_wp2_with (go_at_call 102;(with_reducible refine CJ.out.mono ?_);rintro e W5 ⟨rfl,j5,g5⟩;have h5:=(g5.2 gp HL4.out (by have:=HG2.out;omega)).trans HQ4.out;unfold JPost at j5;rw [if_neg HRR.out] at j5;obtain ⟨L',d',m5,nq5,u5,f5⟩:=j5;have HT5:=hid m5;have HN5:=hid nq5;have HU5:=hid u5;have HF5:=hid f5;have HE5:=hid h5;clear m5 nq5 u5 f5 h5)
    have hol : S.op.length <= 10000000:=by
     have h1:=HMG.out.me
     omega
    obtain ⟨aO,cO,hvo,hoc,hom⟩:=slice_form HT5.out.ow
    rw [hvo] at HT5
    have k3 : W5.cell? ⟨bA + 2,3,none⟩ = some (.slice aO S.op.length cO):=blk_cell HT5.out.box 3
    have k0 : W5.cell? ⟨gp,0,none⟩ = some (.int .u64 x):=blk_cell HE5.out 0
    have k1 : W5.cell? ⟨gp,1,none⟩ = some (.int .u64 y):=blk_cell HE5.out 1
    have n3 : ∀ ob,(W5.alloc ob).cell? ⟨bA + 2,3,none⟩ = some (.slice aO S.op.length cO):=fun ob=>blk_cell (HT5.out.on (Ba W5 ob)).box 3
    have h6:=HT5.out.on (Bt (Ba W5 (.cells #[.int .u64 x,.int .u64 y] 115)) (Bd _ 1))
    have hd6 : ((W5.alloc (.cells #[.int .u64 x,.int .u64 y] 115)).drew).heap[W5.heap.size]? = some (.cells #[.int .u64 x,.int .u64 y] 115 (0,0)):=blk_new _ _ _
    have HOW:=hid h6.ow
    have HD6:=hid hd6
    have HB6 : Hid (bA + 3 <= ((W5.alloc (.cells #[.int .u64 x,.int .u64 y] 115)).drew).heap.size):=h6.lt
    have HPU : Hid (∀ (g cap : Nat) (w' : World),w'.ownsRow (bA + 3) 115 2 (.slice (some ⟨g,0,none⟩) (S.op.length + 1) cap) (S.op.length + 1) (pz (S.op ++ [(x,y)])) -> ((W5.alloc (.cells #[.int .u64 x,.int .u64 y] 115)).drew).grownBy w' (Value.slice aO S.op.length cO).ownBlock -> ((Value.slice aO S.op.length cO).ownBlock = some g \/ g = ((W5.alloc (.cells #[.int .u64 x,.int .u64 y] 115)).drew).heap.size) -> MT bA w0 (.pointer (some ⟨gh,0,none⟩)) (.slice (some ⟨g,0,none⟩) (S.op.length + 1) cap) (S.q ++ [S.root y]) L' (S.hq ++ [(x,y)]) (S.op ++ [(x,y)]) (w'.setCell ⟨bA + 2,3,none⟩ (.slice (some ⟨g,0,none⟩) (S.op.length + 1) cap)) /\ w'.cell? ⟨bA + 2,3,none⟩ = some (.slice aO S.op.length cO) /\ w'.frozen? ⟨bA + 2,3,none⟩ = false):=fun g cap w' ho hg hl=>h6.push (g:=g) (cap:=cap) (w':=w') (op':=S.op ++ [(x,y)]) List.length_append ho hg hl
    obtain ⟨nO,hnO⟩ : ∃ n,n = S.op.length:=⟨_,rfl⟩
    rw [<- hnO] at k3 n3 HOW HPU hol hoc
    clear h6 hd6 hvo hnO
    go_region_law ((refine stepPair (some 51) (by rfl) (by rfl) _ _ 111 (by rfl) (bA + 3) 115 Tryz.underlying111 info_pair (.slice aO nO cO) nO S.op (by simp [Act.eval,Act.put]) HOW.out W5.heap.size 1 (x,y) (by simp [Act.eval,Act.put]) HD6.out hol HB6.out ?_;intro g7 cap7 w7 ho7 hg7 hl7 hlt7;obtain ⟨p7,c7,f7⟩:=HPU.out g7 cap7 w7 ho7 hg7 hl7;have HP7:=hid p7;clear p7 ho7 hg7 hl7 hlt7))
    go_wp2_with fail
    all_goals
     go_ret
     exact ⟨true,rfl,⟨joined S.root (S.root x) (S.root y),d',L',S.q ++ [S.root y],S.hq ++ [(x,y)],S.op ++ [(x,y)],(x,y) :: S.G,.slice (some ⟨g7,0,none⟩) (nO + 1) cap7⟩,⟨HP7.out,HMG.out.join _ hus HMAY.out HX.out HY.out HU5.out HNM.out HRR.out HN5.out HF5.out HAL.out⟩,fun u z e=>joined_mono u z e,fun _=>(HMG.out.uf.join (may_ow HMAY.out).1 (may_ow HMAY.out).2 HRR.out).rel (x,y) List.mem_cons_self,fun e=>(by cases e)⟩
 ·have hmem : (x, y) ∈ S.hq := of_decide_eq_true HBH.out.symm
  have HR:=hid (HMG.out.hd _ hmem)
  clear hmem
  go_wp2_with fail
  go_ret
  exact ⟨true,rfl,S,⟨HT2.out,HMG.out⟩,fun _ _ e=>e,fun _=>HR.out,fun e=>(by cases e)⟩
end
end Go.Proofs.YticimejfjjmikaaGreatDoor
