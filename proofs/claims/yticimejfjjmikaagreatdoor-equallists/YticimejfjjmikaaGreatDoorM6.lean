import Derived.Test.YticimejfjjmikaaGreatDoorST6
import Derived.Test.YticimejfjjmikaaGreatDoorSG1
set_option linter.unusedVariables false
set_option linter.unusedSimpArgs false
set_option maxRecDepth 100000
namespace Go.Proofs.YticimejfjjmikaaGreatDoor
open Go.RowKit
def fieldsK (d : Nd) : Int:=if d.kind = 3 then 5 else if d.kind = 5 then 3 else if d.kind = 9 then 4 else if d.kind = 7 then 1 else 2
def bytesL (t : ByteArray) (n : Nat) : List Int:=(List.range n).map (fun i=>wordR 1 (byteAt t i : Nat) 0)
def fieldsL (d : Nd) (ws : List Int) : List Int :=
 if d.kind = 3 then bigL (decide (txZ d.text < 0)) (mg (txZ d.text).natAbs) else if d.kind = 5 then (ltrs d.text).map (fun c=>wordR 4 c 0)
 else if d.kind = 9 then bytesL d.text d.text.size else d.kids.map (fun k=>ws.getD k.toNat 0)
theorem runeD_lt (s : ByteArray) (i : Nat) : (runeD s i).1 <= 1114111:=by
 have hl : ∀ n : Nat,letB (n : Int) = true -> n <= 1114111:=fun n h=>by
  unfold letB at h
  simp only [Bool.and_eq_true,decide_eq_true_eq] at h
  omega
 by_cases h1 : byteAt s i < 128
 ·rw [runeD_1 h1];show byteAt s i <= 1114111;omega
 by_cases h2 : byteAt s i < 192
 ·rw [runeD_bad (.inl ⟨by omega,h2⟩)];exact Nat.zero_le _
 by_cases h3 : byteAt s i < 224
 ·rw [runeD_2 (by omega) h3]
  split
  ·have := cvs_lt s i (byteAt s i % 32) (by omega) 1
   show cvs s i (byteAt s i % 32) 1 <= 1114111
   omega
  ·exact Nat.zero_le _
 by_cases h4 : byteAt s i < 240
 ·rw [runeD_3 (by omega) h4]
  split
  ·next h=>exact hl _ h.2.2.2
  ·exact Nat.zero_le _
 by_cases h5 : byteAt s i < 248
 ·rw [runeD_4 (by omega) h5]
  split
  ·next h=>exact hl _ h.2.2.2.2
  ·exact Nat.zero_le _
 ·rw [runeD_bad (.inr (by omega))];exact Nat.zero_le _
theorem ltF_bd (s : ByteArray) : ∀ f i,∀ z∈ltF s f i,0 <= z /\ z <= 1114111
 | 0,_,z,h=>by simp [ltF] at h
 | f + 1, i, z, h => by
  unfold ltF at h
  split at h
  ·rcases List.mem_cons.1 h with rfl | h
   ·have:=runeD_lt s i;omega
   ·exact ltF_bd s f _ z h
  ·simp at h
theorem ltrs_bd (s : ByteArray) : ∀ z∈ltrs s,0 <= z /\ z <= 1114111:=ltF_bd s _ _
theorem iz_get {l : List Int} {i : Nat} (h : i < l.length) : (iz l)[i]? = some (.int .i64 (l.getD i 0)):=by
 unfold iz;rw [List.getElem?_map,List.getD_eq_getElem?_getD,List.getElem?_eq_getElem h];rfl
theorem irow_own {w : World} {B : Nat} {e : TypeId} {v : Value} {l : List Int} (h : w.ownsRow B e 1 v l.length (iz l)) (hb : ∀ z∈l,I64 z) : ∃ ao cap,v = .slice ao l.length cap /\ IRow w ao l.length cap l:=by
 rcases h.2 with ⟨rfl,h0⟩ | ⟨g,cap,cur,rfl,h2,h3,h4,h5,h6,h7⟩
 ·have : l = [] := List.length_eq_zero_iff.1 h0
  subst this
  exact ⟨none,0,rfl,rfl,Nat.le_refl _,by unfold maxLen;omega,fun _=>rfl,hb,.inl rfl⟩
 ·refine ⟨some ⟨g, 0, none⟩, cap, rfl, rfl, h4, h5, fun e => (by cases e), hb, .inr ⟨g, 0, rfl, (Array.getElem?_eq_some_iff.1 h3).1, fun i hi => ?_⟩⟩
  rw [Nat.zero_add,blk_cell h3]
  have : cur[i]? = (iz l)[i]?:=by rw [<- h7,List.getElem?_take,if_pos (by omega)];simp
  rw [this,iz_get hi]
theorem map_take {α : Type} {l : List Int} {q : Nat} (f : Int -> α) (h : q < l.length) : (l.take (q + 1)).map f = (l.take q).map f ++ [f (l.getD q 0)]:=by
 rw [List.take_succ_eq_append_getElem h,List.map_append,List.getD_eq_getElem?_getD,List.getElem?_eq_getElem h];rfl
theorem bytesL_succ (t : ByteArray) (q : Nat) : bytesL t (q + 1) = bytesL t q ++ [wordR 1 (byteAt t q : Nat) 0]:=by
 unfold bytesL;rw [List.range_succ,List.map_append];rfl
theorem bytesL_len (t : ByteArray) (q : Nat) : (bytesL t q).length = q:=by simp [bytesL]
theorem fieldsL_u (d : Nd) {ws : List Int} (hw : ∀ z∈ws,U64 z) : ∀ z∈fieldsL d ws,U64 z:=by
 intro z hz
 unfold fieldsL at hz
 split at hz
 ·exact bigL_u _ _ z hz
 split at hz
 ·obtain ⟨x,_,rfl⟩:=List.mem_map.1 hz;exact wordR_rng _ _ _
 split at hz
 ·unfold bytesL at hz;obtain ⟨x,_,rfl⟩:=List.mem_map.1 hz;exact wordR_rng _ _ _
 ·obtain ⟨k, _, rfl⟩ := List.mem_map.1 hz
  rw [List.getD_eq_getElem?_getD]
  by_cases h : k.toNat < ws.length
  ·rw [List.getElem?_eq_getElem h];exact hw _ (List.getElem_mem _)
  ·rw [List.getElem?_eq_none (by omega)];exact ⟨Int.le_refl _,by decide⟩
theorem neg_of {neg : Bool} {l : List Nat} {z : Int} (g : goodB neg l = true) (hz : sgn neg (val B32 l) = z) : neg = decide (z < 0):=by
 subst hz
 cases neg
 ·exact (decide_eq_false (by simp [sgn])).symm
 ·have h0 : l ≠ [] := fun e => by have := goodB_neg g (by rw [e]; rfl); cases this
  have:=(goodB_tr g).ne_zero (B:=B32) (by decide) h0
  exact (decide_eq_true (by simp [sgn];omega)).symm
def FldPost (d : Nd) (ws : List Int) (w : World) (e : Ending) (w' : World) : Prop:=∃ v,e = .returned (.tuple #[.int .i64 (fieldsK d),v]) /\ w'.ownsRow w.heap.size 44 1 v (fieldsL d ws).length (uz (fieldsL d ws)) /\ Below w.heap.size w w'
set_option maxHeartbeats 4000000 in
theorem fields_big (d : Nd) (ka : Option Addr) (kc : Nat) (aW : Option Addr) (nW cW : Nat) (ws : List Int) (w : World) (hk : d.kind = 3) (htx : d.text.size <= 5000) (hp : printedB d.text = true) :
  Calls Tryz.prog 94 #[NdVal d ka kc,.slice aW nW cW] w (FldPost d ws w):=by
 have HB:=hid (Ba w (.cells #[.int .i64 d.kind,.int .i64 d.num,.string d.text,.slice ka d.kids.length kc] 54))
 have hx:=blk_new w #[.int .i64 d.kind,.int .i64 d.num,.string d.text,.slice ka d.kids.length kc] 54
 have HFL : Hid (fieldsL d ws = bigL (decide (txZ d.text < 0)) (mg (txZ d.text).natAbs)):=if_pos hk
 have HFK : Hid (fieldsK d = 5):=if_pos hk
 unfold NdVal
 obtain ⟨dk,dn,dt,dl⟩:=d
 simp only at HB hx HFL HFK htx hp hk ⊢
 subst hk
 obtain ⟨kn,hkn⟩ : ∃ n,n = dl.length:=⟨_,rfl⟩
 rw [<- hkn] at HB hx ⊢
 have c0 : (w.alloc (.cells #[.int .i64 3,.int .i64 dn,.string dt,.slice ka kn kc] 54)).cell? ⟨w.heap.size,0,none⟩ = some (.int .i64 3):=blk_cell hx 0
 have c2 : (w.alloc (.cells #[.int .i64 3,.int .i64 dn,.string dt,.slice ka kn kc] 54)).cell? ⟨w.heap.size,2,none⟩ = some (.string dt):=blk_cell hx 2
 have CP:=hid (txt_parse dt htx hp (w.alloc (.cells #[.int .i64 3,.int .i64 dn,.string dt,.slice ka kn kc] 54)))
 have HT : Hid (∀ neg l,goodB neg l = true -> sgn neg (val B32 l) = txZ dt -> l = mg (txZ dt).natAbs -> bigL neg l = bigL (decide (txZ dt < 0)) (mg (txZ dt).natAbs)):=fun neg l g hz hl=>by rw [neg_of g hz,<- hl]
 clear hx hp hkn
 go_enter Tryz.func94,Tryz.ntmps94
 go_wp2_with (first
  | (go_at_call 80;(with_reducible refine CP.out.mono ?_);rintro e W1 ⟨neg,ao,n,cap,l,rfl,R,gd,hz,hl,hn,b1⟩;have HB1:=hid (Bt HB.out b1);have HB2:=hid (Ba W1 (.cells #[.bool neg,.slice ao n cap] 104));have hxi:=blk_new W1 #[.bool neg,.slice ao n cap] 104;have i0 : (W1.alloc (.cells #[.bool neg,.slice ao n cap] 104)).cell? ⟨W1.heap.size,0,none⟩ = some (.bool neg):=blk_cell hxi 0;have i1 : (W1.alloc (.cells #[.bool neg,.slice ao n cap] 104)).cell? ⟨W1.heap.size,1,none⟩ = some (.slice ao n cap):=blk_cell hxi 1;have CB:=hid (big_any neg ao n cap l (W1.alloc (.cells #[.bool neg,.slice ao n cap] 104)) (R.below HB2.out) (by omega));have HE:=hid (HT.out neg l gd hz hl);have HNL:=hid R.len;rw [HE.out] at CB;clear R gd hz hl b1 hxi)
  | (go_at_call 148;(with_reducible refine CB.out.mono ?_);rintro e W2 ⟨v,rfl,hv,b2⟩;have HO:=hid hv;have HB3:=hid (Bt (Bt HB1.out HB2.out) b2);clear hv b2))
 go_ret2
 have hlen : n + 1 = (bigL (decide (txZ dt < 0)) (mg (txZ dt).natAbs)).length:=by rw [<- HE.out,bigL_len,HNL.out]
 unfold FldPost
 rw [HFK.out,HFL.out,<- hlen]
 exact ⟨_,rfl,own_weak HO.out (Bt HB1.out HB2.out).size,HB3.out⟩
set_option maxHeartbeats 4000000 in
theorem fields_string (d : Nd) (ka : Option Addr) (kc : Nat) (aW : Option Addr) (nW cW : Nat) (ws : List Int) (w : World) (hk : d.kind = 5) (htx : d.text.size <= 1000000) :
  Calls Tryz.prog 94 #[NdVal d ka kc,.slice aW nW cW] w (FldPost d ws w):=by
 have HB:=hid (Ba w (.cells #[.int .i64 d.kind,.int .i64 d.num,.string d.text,.slice ka d.kids.length kc] 54))
 have hx:=blk_new w #[.int .i64 d.kind,.int .i64 d.num,.string d.text,.slice ka d.kids.length kc] 54
 have HFL : Hid (fieldsL d ws = (ltrs d.text).map (fun c=>wordR 4 c 0)):=by
  unfold Hid fieldsL;rw [if_neg (by omega),if_pos hk]
 have HFK : Hid (fieldsK d = 3):=by
  unfold Hid fieldsK;rw [if_neg (by omega),if_pos hk]
 unfold NdVal
 obtain ⟨dk,dn,dt,dl⟩:=d
 simp only at HB hx HFL HFK htx hk ⊢
 subst hk
 obtain ⟨kn,hkn⟩ : ∃ n,n = dl.length:=⟨_,rfl⟩
 rw [<- hkn] at HB hx ⊢
 have c0 : (w.alloc (.cells #[.int .i64 5,.int .i64 dn,.string dt,.slice ka kn kc] 54)).cell? ⟨w.heap.size,0,none⟩ = some (.int .i64 5):=blk_cell hx 0
 have c2 : (w.alloc (.cells #[.int .i64 5,.int .i64 dn,.string dt,.slice ka kn kc] 54)).cell? ⟨w.heap.size,2,none⟩ = some (.string dt):=blk_cell hx 2
 have CL:=hid (letters_any dt htx (w.alloc (.cells #[.int .i64 5,.int .i64 dn,.string dt,.slice ka kn kc] 54)))
 have hll:=ltrs_len dt
 have HLB:=hid (ltrs_bd dt)
 obtain ⟨l,hl⟩ : ∃ l,l = ltrs dt:=⟨_,rfl⟩
 rw [<- hl] at CL hll HLB HFL
 clear hx hkn hl
 go_enter Tryz.func94,Tryz.ntmps94
 go_wp2_with (go_at_call 145;(with_reducible refine CL.out.mono ?_);rintro e W1 ⟨v,rfl,hv,b1⟩;obtain ⟨aL,cL,rfl,hR⟩:=irow_own hv (fun z hz=>by have:=HLB.out z hz;unfold I64;omega);have HR:=hid hR;have hf:=hR.fits;have hm:=hR.most;have HB1:=hid (Bt HB.out b1);clear hv hR b1)
 unfold maxLen at hm
 obtain ⟨n,hn⟩ : ∃ n,n = l.length:=⟨_,rfl⟩
 rw [<- hn] at HR hf hll ⊢
 have HN:=hid hn
 clear hn
 go_loopw [6,10] (fun v i wr=>∃ q : Nat,q <= n /\ i = .int .i64 q /\ Hid (wr.ownsRow W1.heap.size 44 1 v q (uz ((l.take q).map (fun c=>wordR 4 c 0))) /\ Below W1.heap.size W1 wr)) (fun _ i _=>n - (intOf i).toNat)
 case atStart=>exact ⟨0,Nat.zero_le _,rfl,World.ownsRow_nil _ _ _ _,Below.refl _ _⟩
 case round =>
  obtain ⟨q,hq,rfl,hI⟩:=hrel
  have HOQ:=hid hI.out.1
  have HBQ:=hid hI.out.2
  clear hI
  by_cases hlt : q < n
  ·obtain ⟨b, o, rfl, hlb, hcc⟩ := (HR.out.below HBQ.out).some (by omega)
   have hck:=hcc q hlt
   have hql : Hid (q < l.length):=by unfold Hid;rw [<- HN.out];exact hlt
   have hxb : 0 <= l.getD q 0 /\ l.getD q 0 <= 1114111:=by
    rw [List.getD_eq_getElem?_getD,List.getElem?_eq_getElem hql.out];exact HLB.out _ (List.getElem_mem _)
   have C1:=hid (sword_any 4 (l.getD q 0) (by unfold Z64;omega) (by unfold Z64;omega) wr)
   have HT:=hid (map_take (fun c=>wordR 4 c 0) hql.out)
   obtain ⟨x,hx⟩ : ∃ x,x = l.getD q 0:=⟨_,rfl⟩
   rw [<- hx] at hck C1 HT hxb
   obtain ⟨x0,x1⟩:=hxb
   obtain ⟨zx,hzx⟩ : ∃ z,z = wordR 4 x 0:=⟨_,rfl⟩
   have hzu : Hid (U64 zx):=by unfold Hid;rw [hzx];exact wordR_rng _ _ _
   rw [<- hzx] at C1 HT
   clear hcc hx hzx
   go_wp2_with (first
    | (go_at_call 146;(with_reducible refine C1.out.mono ?_);rintro e W2 ⟨rfl,b1⟩;have HB2:=hid (b1.mono HBQ.out.size);have HBW1:=hid (HBQ.out.trans HB2.out);have HO1:=hid (uown_on (uown_on HOQ.out b1) (Ba W2 (.cells #[.int .u64 zx] 44)));have HU1:=hid (urow_one (blk_new W2 #[.int .u64 zx] 44) hzu.out);have HBA:=hid (HBW1.out.trans ((Ba W2 (.cells #[.int .u64 zx] 44)).mono HBW1.out.size));have HSA:=hid HBA.out.size;clear b1)
    | (at_builtin;refine appU rfl _ _ 23 rfl W1.heap.size 44 Tryz.underlying23 info_word _ q ((l.take q).map (fun c=>wordR 4 c 0)) rfl HO1.out (some ⟨W2.heap.size,0,none⟩) 1 1 [zx] rfl HU1.out (by omega) HSA.out ?_;intro v2 w2 ho2 hg2))
   have HE : Hid (Below W1.heap.size W1 w2):=HBA.out.grown hg2 HSA.out (fun b hb=>(HO1.out.lt b hb).1)
   refine ⟨⟨q + 1,by omega,by go_num,?_,HE.out⟩,by simp [intOf] <;> omega⟩
   rw [HT.out];exact ho2
  ·obtain rfl : q = n := by omega
   go_wp2_with fail
   go_ret2
   have hO:=HOQ.out
   rw [List.take_of_length_le (by rw [<- HN.out];exact Nat.le_refl _)] at hO
   unfold FldPost
   rw [HFK.out,HFL.out,List.length_map,<- HN.out]
   exact ⟨_,rfl,own_weak hO HB1.out.size,Bt HB1.out HBQ.out⟩
set_option maxHeartbeats 4000000 in
theorem fields_bytes (d : Nd) (ka : Option Addr) (kc : Nat) (aW : Option Addr) (nW cW : Nat) (ws : List Int) (w : World) (hk : d.kind = 9) (htx : d.text.size <= 1000000) :
  Calls Tryz.prog 94 #[NdVal d ka kc,.slice aW nW cW] w (FldPost d ws w):=by
 have HB:=hid (Ba w (.cells #[.int .i64 d.kind,.int .i64 d.num,.string d.text,.slice ka d.kids.length kc] 54))
 have hx:=blk_new w #[.int .i64 d.kind,.int .i64 d.num,.string d.text,.slice ka d.kids.length kc] 54
 have HX:=hid hx
 have HFL : Hid (fieldsL d ws = bytesL d.text d.text.size):=by
  unfold Hid fieldsL;rw [if_neg (by omega),if_neg (by omega),if_pos hk]
 have HFK : Hid (fieldsK d = 4):=by
  unfold Hid fieldsK;rw [if_neg (by omega),if_neg (by omega),if_pos hk]
 unfold NdVal
 obtain ⟨dk,dn,dt,dl⟩:=d
 simp only at HB hx HX HFL HFK htx hk ⊢
 subst hk
 obtain ⟨kn,hkn⟩ : ∃ n,n = dl.length:=⟨_,rfl⟩
 rw [<- hkn] at HB hx HX ⊢
 have c0 : (w.alloc (.cells #[.int .i64 9,.int .i64 dn,.string dt,.slice ka kn kc] 54)).cell? ⟨w.heap.size,0,none⟩ = some (.int .i64 9):=blk_cell hx 0
 obtain ⟨W0,hW0⟩ : ∃ W,W = w.alloc (.cells #[.int .i64 9,.int .i64 dn,.string dt,.slice ka kn kc] 54):=⟨_,rfl⟩
 have eW : Hid (w.alloc (.cells #[.int .i64 9,.int .i64 dn,.string dt,.slice ka kn kc] 54) = W0):=hW0.symm
 rw [eW.out] at HB HX
 have HS : Hid (w.heap.size < W0.heap.size):=by unfold Hid;rw [hW0,size_alloc];omega
 have HC : Hid (∀ W,Below W0.heap.size W0 W -> W.cell? ⟨w.heap.size,2,none⟩ = some (.string dt)):=fun W b=>blk_cell ((b.block w.heap.size HS.out).trans HX.out) 2
 clear hx hkn hW0
 go_enter Tryz.func94,Tryz.ntmps94
 go_wp2_with fail
 rw [eW.out]
 clear c0
 go_loopw [6,11] (fun v i wr=>∃ q : Nat,q <= dt.size /\ i = .int .i64 q /\ Hid (wr.ownsRow W0.heap.size 44 1 v q (uz (bytesL dt q)) /\ Below W0.heap.size W0 wr)) (fun _ i _=>dt.size - (intOf i).toNat)
 case atStart=>exact ⟨0,Nat.zero_le _,rfl,World.ownsRow_nil _ _ _ _,Below.refl _ _⟩
 case round =>
  obtain ⟨q,hq,rfl,hI⟩:=hrel
  have HOQ:=hid hI.out.1
  have HBQ:=hid hI.out.2
  have d2:=HC.out wr HBQ.out
  clear hI
  by_cases hlt : q < dt.size
  ·have hb0 := byteAt_get hlt
   have hbl:=byteAt_lt dt q
   have C1:=hid (sword_any 1 (byteAt dt q : Nat) (by unfold Z64;omega) (by unfold Z64;omega) wr)
   have HT:=hid (bytesL_succ dt q)
   obtain ⟨x,hx⟩ : ∃ x,x = byteAt dt q:=⟨_,rfl⟩
   rw [<- hx] at hb0 hbl C1 HT
   obtain ⟨zx,hzx⟩ : ∃ z,z = wordR 1 ((x : Nat) : Int) 0:=⟨_,rfl⟩
   have hzu : Hid (U64 zx):=by unfold Hid;rw [hzx];exact wordR_rng _ _ _
   rw [<- hzx] at C1 HT
   clear hx hzx
   go_wp2_with (first
    | (go_at_call 146;(with_reducible refine C1.out.mono ?_);rintro e W2 ⟨rfl,b1⟩;have HB2:=hid (b1.mono HBQ.out.size);have HBW1:=hid (HBQ.out.trans HB2.out);have HO1:=hid (uown_on (uown_on HOQ.out b1) (Ba W2 (.cells #[.int .u64 zx] 44)));have HU1:=hid (urow_one (blk_new W2 #[.int .u64 zx] 44) hzu.out);have HBA:=hid (HBW1.out.trans ((Ba W2 (.cells #[.int .u64 zx] 44)).mono HBW1.out.size));have HSA:=hid HBA.out.size;clear b1)
    | (at_builtin;refine appU rfl _ _ 23 rfl W0.heap.size 44 Tryz.underlying23 info_word _ q (bytesL dt q) rfl HO1.out (some ⟨W2.heap.size,0,none⟩) 1 1 [zx] rfl HU1.out (by omega) HSA.out ?_;intro v2 w2 ho2 hg2))
   have HE : Hid (Below W0.heap.size W0 w2):=HBA.out.grown hg2 HSA.out (fun b hb=>(HO1.out.lt b hb).1)
   refine ⟨⟨q + 1,by omega,by go_num,?_,HE.out⟩,by simp [intOf] <;> omega⟩
   rw [HT.out];exact ho2
  ·obtain rfl : q = dt.size := by omega
   go_wp2_with fail
   go_ret2
   unfold FldPost
   rw [HFK.out,HFL.out,bytesL_len]
   exact ⟨_,rfl,own_weak HOQ.out HB.out.size,Bt HB.out HBQ.out⟩
set_option maxHeartbeats 4000000 in
theorem fields_kids (d : Nd) (ka : Option Addr) (kc : Nat) (aW : Option Addr) (nW cW : Nat) (ws : List Int) (w : World) (hk : d.kind = 7 \/ d.kind = 8) (hK : IRow w ka d.kids.length kc d.kids) (hW : URow w aW nW cW ws) (hin : ∀ k∈d.kids,0 <= k /\ k < nW) (hks : d.kids.length <= 1000000) :
  Calls Tryz.prog 94 #[NdVal d ka kc,.slice aW nW cW] w (FldPost d ws w):=by
 have HB:=hid (Ba w (.cells #[.int .i64 d.kind,.int .i64 d.num,.string d.text,.slice ka d.kids.length kc] 54))
 have hx:=blk_new w #[.int .i64 d.kind,.int .i64 d.num,.string d.text,.slice ka d.kids.length kc] 54
 have HX:=hid hx
 have HFL : Hid (fieldsL d ws = d.kids.map (fun k : Int=>ws.getD k.toNat 0)):=by
  unfold Hid fieldsL;rw [if_neg (by omega),if_neg (by omega),if_neg (by omega)]
 have HFK : Hid (fieldsK d = if d.kind = 7 then 1 else 2):=by
  unfold Hid fieldsK;rw [if_neg (by omega),if_neg (by omega),if_neg (by omega)]
 have HK:=hid hK
 have HW:=hid hW
 have HIN:=hid hin
 have hkf:=hK.fits
 have hkm:=hK.most
 have hwf:=hW.fits
 have hwm:=hW.most
 have hwl:=hW.len
 unfold maxLen at hkm hwm
 unfold NdVal
 obtain ⟨dk,dn,dt,dl⟩:=d
 simp only at HB hx HX HFL HFK HK HIN hks hk hkf ⊢
 obtain ⟨kn,hkn⟩ : ∃ n,n = dl.length:=⟨_,rfl⟩
 rw [<- hkn] at HB hx HX HK hks hkf ⊢
 have HN:=hid hkn
 have c0 : (w.alloc (.cells #[.int .i64 dk,.int .i64 dn,.string dt,.slice ka kn kc] 54)).cell? ⟨w.heap.size,0,none⟩ = some (.int .i64 dk):=blk_cell hx 0
 obtain ⟨W0,hW0⟩ : ∃ W,W = w.alloc (.cells #[.int .i64 dk,.int .i64 dn,.string dt,.slice ka kn kc] 54):=⟨_,rfl⟩
 have eW : Hid (w.alloc (.cells #[.int .i64 dk,.int .i64 dn,.string dt,.slice ka kn kc] 54) = W0):=hW0.symm
 rw [eW.out] at HB HX
 have HS : Hid (w.heap.size < W0.heap.size):=by unfold Hid;rw [hW0,size_alloc];omega
 have HC : Hid (∀ W,Below W0.heap.size W0 W -> W.cell? ⟨w.heap.size,3,none⟩ = some (.slice ka kn kc) /\ W.cell? ⟨w.heap.size,0,none⟩ = some (.int .i64 dk)):=fun W b=>⟨blk_cell ((b.block w.heap.size HS.out).trans HX.out) 3,blk_cell ((b.block w.heap.size HS.out).trans HX.out) 0⟩
 have HKW : Hid (∀ W,Below W0.heap.size W0 W -> IRow W ka kn kc dl /\ URow W aW nW cW ws):=fun W b=>⟨HK.out.below (Bt HB.out b),HW.out.on (Bt HB.out b)⟩
 have e3 : (dk == 3) = false:=by simp;omega
 have e5 : (dk == 5) = false:=by simp;omega
 have e9 : (dk == 9) = false:=by simp;omega
 have HKD:=hid hk
 clear hx hkn hW0 hK hW hin hk
 go_enter Tryz.func94,Tryz.ntmps94
 go_wp2_with fail
 rw [eW.out]
 clear c0 e3 e5 e9
 go_loopw [6,12] (fun v i wr=>∃ q : Nat,q <= kn /\ i = .int .i64 q /\ Hid (wr.ownsRow W0.heap.size 44 1 v q (uz ((dl.take q).map (fun k : Int=>ws.getD k.toNat 0))) /\ Below W0.heap.size W0 wr)) (fun _ i _=>kn - (intOf i).toNat)
 case atStart=>exact ⟨0,Nat.zero_le _,rfl,World.ownsRow_nil _ _ _ _,Below.refl _ _⟩
 case round =>
  obtain ⟨q,hq,rfl,hI⟩:=hrel
  have HOQ:=hid hI.out.1
  have HBQ:=hid hI.out.2
  obtain ⟨d3,d0⟩:=HC.out wr HBQ.out
  clear hI
  by_cases hlt : q < kn
  ·have hql : Hid (q < dl.length) := by unfold Hid; rw [<- HN.out]; exact hlt
   have hxb : 0 <= dl.getD q 0 /\ dl.getD q 0 < nW:=by
    rw [List.getD_eq_getElem?_getD,List.getElem?_eq_getElem hql.out];exact HIN.out _ (List.getElem_mem _)
   obtain ⟨b,o,rfl,hlb,hcc⟩:=(HKW.out wr HBQ.out).1.some (by omega)
   have hck:=hcc q hlt
   have HT:=hid (map_take (fun k : Int=>ws.getD k.toNat 0) hql.out)
   obtain ⟨x,hx⟩ : ∃ x : Nat,dl.getD q 0 = (x : Int):=⟨(dl.getD q 0).toNat,by omega⟩
   rw [hx] at hck HT hxb
   have hxn : x < nW:=by omega
   have hU:=(HKW.out wr HBQ.out).2
   obtain ⟨b2,o2,rfl,hlb2,hcc2⟩:=hU.rd.resolve_left (fun e=>by rw [e] at hwl;simp at hwl;omega)
   have hcw:=hcc2 x (by omega)
   have HT' : Hid ((dl.take (q + 1)).map (fun k : Int=>ws.getD k.toNat 0) = (dl.take q).map (fun k : Int=>ws.getD k.toNat 0) ++ [ws.getD x 0]):=by
    unfold Hid;rw [HT.out,Int.toNat_natCast]
   have hzu : Hid (U64 (ws.getD x 0)):=by
    unfold Hid;rw [List.getD_eq_getElem?_getD,List.getElem?_eq_getElem (by omega)];exact hU.bd _ (List.getElem_mem _)
   obtain ⟨zx,hzx⟩ : ∃ z,z = ws.getD x 0:=⟨_,rfl⟩
   rw [<- hzx] at hcw HT' hzu
   have HO1:=hid (uown_on HOQ.out (Ba wr (.cells #[.int .u64 zx] 44)))
   have HU1:=hid (urow_one (blk_new wr #[.int .u64 zx] 44) hzu.out)
   have HBA:=hid (HBQ.out.trans ((Ba wr (.cells #[.int .u64 zx] 44)).mono HBQ.out.size))
   have HSA:=hid HBA.out.size
   clear hcc hcc2 hzx hU HT hx hxb d0
   go_wp2_with (at_builtin;refine appU rfl _ _ 23 rfl W0.heap.size 44 Tryz.underlying23 info_word _ q ((dl.take q).map (fun k : Int=>ws.getD k.toNat 0)) rfl HO1.out (some ⟨wr.heap.size,0,none⟩) 1 1 [zx] rfl HU1.out (by omega) HSA.out ?_;intro v2 w2 ho2 hg2)
   have HE : Hid (Below W0.heap.size W0 w2):=HBA.out.grown hg2 HSA.out (fun b hb=>(HO1.out.lt b hb).1)
   refine ⟨⟨q + 1,by omega,by go_num,?_,HE.out⟩,by simp [intOf] <;> omega⟩
   rw [HT'.out];exact ho2
  ·obtain rfl : q = kn := by omega
   have fin : Hid (∀ v,wr.ownsRow W0.heap.size 44 1 v q (uz ((dl.take q).map (fun k : Int=>ws.getD k.toNat 0))) -> wr.ownsRow w.heap.size 44 1 v (dl.map (fun k : Int=>ws.getD k.toNat 0)).length (uz (dl.map (fun k : Int=>ws.getD k.toNat 0))) /\ Below w.heap.size w wr):=fun v hO=>by
    rw [List.take_of_length_le (by rw [<- HN.out];exact Nat.le_refl _)] at hO
    rw [List.length_map,<- HN.out]
    exact ⟨own_weak hO HB.out.size,Bt HB.out HBQ.out⟩
   rcases HKD.out with rfl | rfl
   ·rw [if_pos rfl] at HFK
    go_wp2_with fail
    go_ret2
    unfold FldPost
    rw [HFK.out,HFL.out]
    obtain ⟨f1,f2⟩:=fin.out _ HOQ.out
    exact ⟨_,rfl,f1,f2⟩
   ·rw [if_neg (by decide)] at HFK
    go_wp2_with fail
    go_ret2
    unfold FldPost
    rw [HFK.out,HFL.out]
    obtain ⟨f1,f2⟩:=fin.out _ HOQ.out
    exact ⟨_,rfl,f1,f2⟩
theorem fields_any (d : Nd) (ka : Option Addr) (kc : Nat) (aW : Option Addr) (nW cW : Nat) (ws : List Int) (w : World) (hk : 0 < sizeN d) (hp : d.kind = 3 -> printedB d.text = true) (htx : d.text.size <= 5000) (hK : IRow w ka d.kids.length kc d.kids) (hW : URow w aW nW cW ws) (hin : ∀ k∈d.kids,0 <= k /\ k < nW) (hks : d.kids.length <= 1000000) :
  Calls Tryz.prog 94 #[NdVal d ka kc,.slice aW nW cW] w (FldPost d ws w):=by
 unfold sizeN at hk
 split at hk
 ·omega
 by_cases h3 : d.kind = 3
 ·exact fields_big d ka kc aW nW cW ws w h3 htx (hp h3)
 rw [if_neg h3] at hk
 by_cases h5 : d.kind = 5
 ·exact fields_string d ka kc aW nW cW ws w h5 (by omega)
 rw [if_neg h5] at hk
 by_cases h7 : d.kind = 7 \/ d.kind = 8
 ·exact fields_kids d ka kc aW nW cW ws w h7 hK hW hin hks
 rw [if_neg h7] at hk
 by_cases h9 : d.kind = 9
 ·exact fields_bytes d ka kc aW nW cW ws w h9 (by omega)
 rw [if_neg h9] at hk
 omega
theorem followS_nil (ns : List Nd) (f : Nat) (pl ord : List Int) : followS ns f [] pl ord = (pl,ord):=by cases f <;> rfl
theorem um_meet (ns : List Nd) (pl ord : List Int) {o : Nat} (ho : o < ns.length) (hl : pl.length = ns.length) (hp : pl.getD o 0 = -1) : um ns (meetS ns pl ord o).1 <= um ns pl:=by
 obtain ⟨z,hz1,hz2,hz3,hz4⟩:=meetS_facts ns pl ord o
 rw [hz3]
 have:=um_set (ns:=ns) (pl:=pl) (i:=o) (z:=z) ho (by omega) hp hz1
 omega
theorem um_follow {ns : List Nd} {nn : Nat} : ∀ {f : Nat} {st pl ord : List Int},Fv ns nn st pl ord f -> um ns (followS ns f st pl ord).1 <= um ns pl
 | 0,_,_,_,_=>Nat.le_refl _
 | f + 1,[],_,_,_=>Nat.le_refl _
 | f + 1, o :: st, pl, ord, h => by
  unfold followS
  have hr:=h.rng o (by simp)
  by_cases hp : pl.getD o.toNat 0 = -1
  ·rw [if_neg (fun hq => hq hp)]
   exact Nat.le_trans (um_follow (h.meet hp)) (um_meet ns pl ord (by rw [h.nlen];omega) (by rw [h.plen,h.nlen]) hp)
  ·rw [if_pos hp];exact um_follow h.skip
theorem Fv.left {ns : List Nd} {nn : Nat} {s1 s2 pl ord : List Int} {f : Nat} (h : Fv ns nn (s1 ++ s2) pl ord f) : Fv ns nn s1 pl ord f :=
 ⟨h.plen,h.nlen,h.kids,fun z hz=>h.rng z (by simp [hz]),by have:=h.fu;simp at this;omega,h.cnt⟩
theorem Fv.right {ns : List Nd} {nn : Nat} {s1 s2 pl ord : List Int} {f : Nat} (h : Fv ns nn (s1 ++ s2) pl ord f) : Fv ns nn s2 (followS ns f s1 pl ord).1 (followS ns f s1 pl ord).2 f:=by
 have e:=h.left.end_
 have u:=um_follow h.left
 exact ⟨e.plen,e.nlen,e.kids,fun z hz=>h.rng z (by simp [hz]),by have:=h.fu;simp at this;omega,e.cnt⟩
theorem follow_fuel {ns : List Nd} {nn : Nat} : ∀ {f : Nat} {st pl ord : List Int},Fv ns nn st pl ord f -> followS ns (f + 1) st pl ord = followS ns f st pl ord
 | 0,st,pl,ord,h=>by
  have:=h.fu
  obtain rfl : st = []:=List.length_eq_zero_iff.1 (by omega)
  rfl
 | f + 1,[],pl,ord,h=>rfl
 | f + 1,o :: st,pl,ord,h=>by
  rw [followS,followS]
  by_cases hp : pl.getD o.toNat 0 = -1
  ·rw [if_neg (fun hq=>hq hp),if_neg (fun hq=>hq hp)];exact follow_fuel (h.meet hp)
  ·rw [if_pos hp,if_pos hp];exact follow_fuel h.skip
theorem follow_append {ns : List Nd} {nn : Nat} : ∀ {f : Nat} {s1 s2 pl ord : List Int},Fv ns nn (s1 ++ s2) pl ord f -> followS ns f (s1 ++ s2) pl ord = followS ns f s2 (followS ns f s1 pl ord).1 (followS ns f s1 pl ord).2
 | f,[],s2,pl,ord,h=>by rw [followS_nil];rfl
 | 0,o :: s1,s2,pl,ord,h=>by have:=h.fu;simp at this
 | f + 1, o :: s1, s2, pl, ord, h => by
  have h' : Fv ns nn (o :: (s1 ++ s2)) pl ord (f + 1):=h
  rw [List.cons_append,followS,followS]
  by_cases hp : pl.getD o.toNat 0 = -1
  ·rw [if_neg (fun hq => hq hp), if_neg (fun hq => hq hp)]
   have h2:=h'.meet hp
   rw [<- List.append_assoc] at h2 ⊢
   rw [follow_append h2,follow_fuel h2.right]
  ·rw [if_pos hp, if_pos hp]
   have h2:=h'.skip
   rw [follow_append h2,follow_fuel h2.right]
theorem followR_all {ns : List Nd} {nn : Nat} {f : Nat} : ∀ {rs : List Int} {s : List Int × List Int},Fv ns nn rs s.1 s.2 f -> followR ns f rs s = followS ns f rs s.1 s.2
 | [],s,h=>by rw [followS_nil];rfl
 | r :: rs,s,h=>by
  have h' : Fv ns nn ([r] ++ rs) s.1 s.2 f:=h
  show followR ns f rs (followS ns f [r] s.1 s.2) = followS ns f ([r] ++ rs) s.1 s.2
  rw [follow_append h',followR_all h'.right]
def rmetS (ns : List Nd) (pt ord : List Int) (n : Nat) : Int :=
 if 0 <= pt.getD n 0 \/ atomB (ns.getD n default).kind = false then pt.getD n 0 else
  match findA ns ord (ns.getD n default) with
  | some j=>(j : Int)
  | none=>-1
def rfollowS (ns : List Nd) : Nat -> List Int -> List Int -> List Int -> List Int × List Int
 | 0,_,pt,ord=>(pt,ord)
 | _ + 1,[],pt,ord=>(pt,ord)
 | f + 1,o :: st,pt,ord=>if 0 <= rmetS ns pt ord o.toNat then rfollowS ns f st pt ord else rfollowS ns f ((ns.getD o.toNat default).kids ++ st) (pt.set o.toNat ord.length) (ord ++ [(o.toNat : Int)])
structure Rr (ns : List Nd) (pl pt ord : List Int) : Prop where
 plen : pl.length = ns.length
 tlen : pt.length = ns.length
 pos : ∀ i,i < ns.length -> pl.getD i 0 ≠ -1 -> 0 <= pl.getD i 0
 r1 : ∀ i,i < ns.length -> pt.getD i 0 ≠ -1 -> pl.getD i 0 = pt.getD i 0
 r2 : ∀ i,i < ns.length -> pl.getD i 0 ≠ -1 -> pt.getD i 0 = pl.getD i 0 \/ (pt.getD i 0 = -1 /\ atomB (ns.getD i default).kind = true /\ ∃ j,findA ns ord (ns.getD i default) = some j /\ pl.getD i 0 = (j : Int))
theorem Rr.met {ns : List Nd} {pl pt ord : List Int} (h : Rr ns pl pt ord) {i : Nat} (hi : i < ns.length) (hp : pl.getD i 0 ≠ -1) : rmetS ns pt ord i = pl.getD i 0:=by
 have hpos:=h.pos i hi hp
 unfold rmetS
 rcases h.r2 i hi hp with e | ⟨e,ha,j,hf,hj⟩
 ·rw [if_pos (.inl (by omega)),e]
 ·rw [if_neg (by rw [e,ha];simp),hf,hj]
theorem Rr.un {ns : List Nd} {pl pt ord : List Int} (h : Rr ns pl pt ord) {i : Nat} (hi : i < ns.length) (hp : pl.getD i 0 = -1) : pt.getD i 0 = -1:=by
 by_cases e : pt.getD i 0 = -1
 ·exact e
 ·have:=h.r1 i hi e;omega
theorem rsim {ns : List Nd} (hb : ∀ d∈ns,atomB d.kind = true -> d.kids = []) (hk : ∀ d∈ns,placesB d.kids ns.length = true) : ∀ {f : Nat} {st pl pt ord : List Int},(∀ z∈st,0 <= z /\ z < ns.length) -> Rr ns pl pt ord ->
  Rr ns (followS ns f st pl ord).1 (rfollowS ns f st pt ord).1 (followS ns f st pl ord).2 /\ (rfollowS ns f st pt ord).2 = (followS ns f st pl ord).2
 | 0,_,_,_,_,_,R=>⟨R,rfl⟩
 | f + 1,[],_,_,_,_,R=>⟨R,rfl⟩
 | f + 1, o :: st, pl, pt, ord, hs, R => by
  have ho:=hs o (by simp)
  have hi : o.toNat < ns.length:=by omega
  have hst : ∀ z∈st,0 <= z /\ z < (ns.length : Int):=fun z hz=>hs z (by simp [hz])
  have hmem:=getD_mem_nd hi
  unfold followS rfollowS
  by_cases hp : pl.getD o.toNat 0 = -1
  ·rw [if_neg (fun hq => hq hp)]
   have ht:=R.un hi hp
   have fresh : (atomB (ns.getD o.toNat default).kind = false \/ findA ns ord (ns.getD o.toNat default) = none) -> meetS ns pl ord o.toNat = (pl.set o.toNat ord.length,ord ++ [(o.toNat : Int)]) /\ rmetS ns pt ord o.toNat = -1:=by
    intro hf
    unfold meetS rmetS
    rcases hf with hf | hf
    ·rw [if_neg (by rw [hf];decide),if_pos (.inr hf)];exact ⟨rfl,ht⟩
    ·by_cases ha : atomB (ns.getD o.toNat default).kind = true
     ·rw [if_pos ha,hf,if_neg (by rw [ht,ha];simp)];exact ⟨rfl,rfl⟩
     ·rw [if_neg ha,if_pos (.inr (by simpa using ha))];exact ⟨rfl,ht⟩
   have go : (atomB (ns.getD o.toNat default).kind = false \/ findA ns ord (ns.getD o.toNat default) = none) -> Rr ns (pl.set o.toNat ord.length) (pt.set o.toNat ord.length) (ord ++ [(o.toNat : Int)]):=by
    intro hf
    have hlp : o.toNat < pl.length:=by rw [R.plen];exact hi
    have hlt : o.toNat < pt.length:=by rw [R.tlen];exact hi
    refine ⟨by rw [List.length_set];exact R.plen,by rw [List.length_set];exact R.tlen,fun i h1 h2=>?_,fun i h1 h2=>?_,fun i h1 h2=>?_⟩
    ·by_cases e : o.toNat = i
     ·subst e;rw [getD_set_self hlp];omega
     ·rw [getDi_set_ne e] at h2 ⊢;exact R.pos i h1 h2
    ·by_cases e : o.toNat = i
     ·subst e;rw [getD_set_self hlp,getD_set_self hlt]
     ·rw [getDi_set_ne e] at h2 ⊢;rw [getDi_set_ne e];exact R.r1 i h1 h2
    ·by_cases e : o.toNat = i
     ·subst e;left;rw [getD_set_self hlp,getD_set_self hlt]
     ·rw [getDi_set_ne e] at h2 ⊢; rw [getDi_set_ne e]
      rcases R.r2 i h1 h2 with q | ⟨q1,q2,j,q3,q4⟩
      ·exact .inl q
      ·exact .inr ⟨q1,q2,j,findA_snoc_some q3,q4⟩
   by_cases ha : atomB (ns.getD o.toNat default).kind = true
   ·cases hfo : findA ns ord (ns.getD o.toNat default) with
    | none =>
     obtain ⟨e1,e2⟩:=fresh (.inr hfo)
     rw [e1,e2,if_neg (by omega),hb _ hmem ha,List.nil_append]
     exact rsim hb hk hst (go (.inr hfo))
    | some j =>
     have e1 : meetS ns pl ord o.toNat = (pl.set o.toNat j,ord):=by unfold meetS;rw [if_pos ha,hfo]
     have e2 : rmetS ns pt ord o.toNat = j:=by unfold rmetS;rw [if_neg (by rw [ht,ha];simp),hfo]
     rw [e1,e2,if_pos (by omega),hb _ hmem ha,List.nil_append]
     refine rsim hb hk hst ⟨by rw [List.length_set];exact R.plen,R.tlen,fun i h1 h2=>?_,fun i h1 h2=>?_,fun i h1 h2=>?_⟩
     ·by_cases e : o.toNat = i
      ·subst e;rw [getD_set_self (by rw [R.plen];exact hi)];omega
      ·rw [getDi_set_ne e] at h2 ⊢;exact R.pos i h1 h2
     ·by_cases e : o.toNat = i
      ·subst e;exact absurd ht h2
      ·rw [getDi_set_ne e];exact R.r1 i h1 h2
     ·by_cases e : o.toNat = i
      ·subst e;right;exact ⟨ht,ha,j,hfo,getD_set_self (by rw [R.plen];exact hi)⟩
      ·rw [getDi_set_ne e] at h2 ⊢;exact R.r2 i h1 h2
   ·obtain ⟨e1, e2⟩ := fresh (.inl (by simpa using ha))
    rw [e1,e2,if_neg (by omega)]
    refine rsim hb hk ?_ (go (.inl (by simpa using ha)))
    intro z hz
    rcases List.mem_append.1 hz with hz | hz
    ·exact places_rng (hk _ hmem) z hz
    ·exact hst z hz
  ·rw [if_pos hp, R.met hi hp, if_pos (R.pos _ hi hp)]
   exact rsim hb hk hst R
def rmetL (ns : List Nd) (pt ord l : List Int) : List Int:=l.map fun o=>rmetS ns pt ord o.toNat
def rnewNode (ns : List Nd) (pt ord : List Int) (o : Int) : Nd:={ ns.getD o.toNat default with kids:=rmetL ns pt ord (ns.getD o.toNat default).kids }
def rcanonG (ns : List Nd) (rs : List Int) (f : Nat) : List Nd × List Int :=
 if goodG ns rs = true then
  let s:=rfollowS ns f rs (start ns.length).1 (start ns.length).2
  (s.2.map (rnewNode ns s.1 s.2),rmetL ns s.1 s.2 rs)
 else ([],[])
theorem rcanon_eq {ns : List Nd} {rs : List Int} {f : Nat} (h : Fine ns rs f) (hf : rs.length + 100 * ns.length <= f) : rcanonG ns rs f = canonG ns rs f:=by
 obtain ⟨q0,q1,q2⟩:=h.ends
 obtain ⟨hk,hr⟩:=goodG_parts h.good
 have hrr:=places_rng hr
 have hst : ∀ i,i < ns.length -> (start ns.length).1.getD i 0 = -1:=fun i hi=>by
  rcases start_get ns.length i with q | q
  ·exact q
  ·omega
 have hF : Fv ns ns.length rs (start ns.length).1 (start ns.length).2 f:=⟨by simp [start],rfl,hk,hrr,by have:=um_le (ns:=ns) (pl:=(start ns.length).1) h.kids;omega,by simp [start]⟩
 have e0 : endS ns rs f = followS ns f rs (start ns.length).1 (start ns.length).2:=followR_all hF
 have R0 : Rr ns (start ns.length).1 (start ns.length).1 (start ns.length).2:=⟨by simp [start],by simp [start],fun i hi hp=>absurd (hst i hi) hp,fun i hi hp=>absurd (hst i hi) hp,fun i hi hp=>absurd (hst i hi) hp⟩
 obtain ⟨R,eo⟩:=rsim (goodG_bare h.good) hk (f:=f) (st:=rs) hrr R0
 rw [<- e0] at R eo
 rw [h.canon]
 unfold rcanonG
 rw [if_pos h.good]
 simp only
 rw [eo]
 generalize (rfollowS ns f rs (start ns.length).1 (start ns.length).2).1 = T at *
 have hm : ∀ k : Int,0 <= k -> k < ns.length -> (endS ns rs f).1.getD k.toNat 0 ≠ -1 -> rmetS ns T (endS ns rs f).2 k.toNat = (endS ns rs f).1.getD k.toNat 0:=fun k k0 k1 hk=>R.met (by omega) hk
 refine Prod.ext ?_ ?_
 ·refine List.map_congr_left fun o ho => ?_
  obtain ⟨j,hj,e⟩:=List.getElem_of_mem ho
  have hoj : (endS ns rs f).2.getD j 0 = o:=by rw [List.getD_eq_getElem?_getD,List.getElem?_eq_getElem hj];exact e
  obtain ⟨r1,r2,r3⟩:=q1.ordr j hj
  rw [hoj] at r1 r2 r3
  refine nd_ext rfl rfl rfl ?_
  show rmetL ns T (endS ns rs f).2 (ns.getD o.toNat default).kids = renum (endS ns rs f).1 (ns.getD o.toNat default).kids
  refine List.map_congr_left fun k hkk=>?_
  have hkr:=places_rng (hk _ (getD_mem_nd (by omega : o.toNat < ns.length))) k hkk
  refine hm k hkr.1 hkr.2 ?_
  rcases q1.cl o r1 r2 (by rw [r3];omega) k hkk with q | q
  ·exact q
  ·cases q
 ·refine List.map_congr_left fun k hkk => ?_
  exact hm k (hrr k hkk).1 (hrr k hkk).2 (q2 k hkk)
end Go.Proofs.YticimejfjjmikaaGreatDoor
