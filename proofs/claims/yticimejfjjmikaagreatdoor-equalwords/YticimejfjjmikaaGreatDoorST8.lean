import Derived.Test.YticimejfjjmikaaGreatDoorST5
set_option linter.unusedVariables false
set_option linter.unusedSimpArgs false
set_option maxRecDepth 100000
namespace Go.Proofs.YticimejfjjmikaaGreatDoor
open Go.RowKit
def plainWd (ls : List ByteArray) (d : Nd) : Int :=
 if d.kind = 1 then wordR 3 0 0 else if d.kind = 2 then wordR 3 (1 + d.num) 0 else if d.kind = 10 then wordR 3 3 0 else if d.kind = 11 then wordR 3 4 0
 else if d.kind = 4 then wordR 4 d.num 0 else if d.kind = 6 then wordR 5 ((idM ls d.text : Nat) : Int) 0 else wordR 1 (txZ d.text) 0
def plainN (ls : List ByteArray) (d : Nd) : List ByteArray:=if d.kind = 6 then idL ls d.text else ls
theorem plainWd_u (ls : List ByteArray) (d : Nd) : U64 (plainWd ls d):=by
 unfold plainWd
 split
 ·exact wordR_rng _ _ _
 split
 ·exact wordR_rng _ _ _
 split
 ·exact wordR_rng _ _ _
 split
 ·exact wordR_rng _ _ _
 split
 ·exact wordR_rng _ _ _
 split <;> exact wordR_rng _ _ _
theorem idM_le : ∀ (ls : List ByteArray) (s : ByteArray),idM ls s <= ls.length
 | [],_=>Nat.le_refl _
 | x :: l,s=>by
  unfold idM
  split
  ·exact Nat.zero_le _
  ·have:=idM_le l s;simp;omega
theorem NPost.of_below {B g : Nat} {vL : Value} {ls : List ByteArray} {w w' : World} (h : NM B g vL ls w) (hb : Below w.heap.size w w') : NPost B g vL w ls w' :=
 ⟨vL,h.on hb,fun b e=>.inl e,Mod.of_below _ hb⟩
theorem NPost.front {B g : Nat} {vL : Value} {ls : List ByteArray} {w w1 w' : World} (hb : Below w.heap.size w w1) (h : NPost B g vL w1 ls w') : NPost B g vL w ls w':=by
 obtain ⟨vL',h1,h2,h3⟩:=h
 have hs:=hb.size
 exact ⟨vL',h1,fun b e=>(h2 b e).imp id (fun e=>by omega),(Mod.of_below (NF g vL) hb).trans h3 (fun _ _ e=>e)⟩
theorem NPost.behind {B g : Nat} {vL : Value} {ls : List ByteArray} {w w1 w' : World} (h : NPost B g vL w ls w1) (hb : Below w1.heap.size w1 w') : NPost B g vL w ls w':=by
 obtain ⟨vL',h1,h2,h3⟩:=h
 exact ⟨vL',h1.on hb,h2,h3.trans (Mod.of_below (NF g vL) hb) (fun _ _ e=>e)⟩
set_option maxHeartbeats 4000000 in
theorem nplain_any {B g : Nat} {vL : Value} {ls : List ByteArray} (d : Nd) (ka : Option Addr) (kc : Nat) (w : World) (h : NM B g vL ls w) (hB : B <= w.heap.size) (hsm : ls.length <= 1000000) (hkd : I64 d.kind) (hnm : 0 <= d.num /\ d.num <= 10000000) (htx : d.text.size <= 5000) (hk : d.kind = 1 \/ d.kind = 2 \/ d.kind = 4 \/ d.kind = 6 \/ d.kind = 10 \/ d.kind = 11 \/ d.kind = 3 /\ printedB d.text = true /\ fixB (txZ d.text) = true) :
  Calls Tryz.prog 92 #[.pointer (some ⟨g,0,none⟩),NdVal d ka kc] w fun e w'=>e = .returned (.int .u64 (plainWd ls d)) /\ NPost B g vL w (plainN ls d) w':=by
 have HB:=hid (Ba w (.cells #[.int .i64 d.kind,.int .i64 d.num,.string d.text,.slice ka d.kids.length kc] 54))
 have hx:=blk_new w #[.int .i64 d.kind,.int .i64 d.num,.string d.text,.slice ka d.kids.length kc] 54
 have H:=hid h
 have HK:=hid hk
 have HPW : Hid (plainWd ls d = if d.kind = 1 then wordR 3 0 0 else if d.kind = 2 then wordR 3 (1 + d.num) 0 else if d.kind = 10 then wordR 3 3 0 else if d.kind = 11 then wordR 3 4 0
  else if d.kind = 4 then wordR 4 d.num 0 else if d.kind = 6 then wordR 5 ((idM ls d.text : Nat) : Int) 0 else wordR 1 (txZ d.text) 0):=rfl
 have HPN : Hid (plainN ls d = if d.kind = 6 then idL ls d.text else ls):=rfl
 obtain ⟨n1,n2⟩:=hnm
 unfold NdVal
 obtain ⟨dk,dn,dt,dl⟩:=d
 simp only at HB HK HPW HPN htx hkd hx n1 n2 ⊢
 obtain ⟨kn,hkn⟩ : ∃ n,n = dl.length:=⟨_,rfl⟩
 rw [<- hkn] at HB hx ⊢
 have c0 : (w.alloc (.cells #[.int .i64 dk,.int .i64 dn,.string dt,.slice ka kn kc] 54)).cell? ⟨w.heap.size,0,none⟩ = some (.int .i64 dk):=blk_cell hx 0
 have c1 : (w.alloc (.cells #[.int .i64 dk,.int .i64 dn,.string dt,.slice ka kn kc] 54)).cell? ⟨w.heap.size,1,none⟩ = some (.int .i64 dn):=blk_cell hx 1
 have c2 : (w.alloc (.cells #[.int .i64 dk,.int .i64 dn,.string dt,.slice ka kn kc] 54)).cell? ⟨w.heap.size,2,none⟩ = some (.string dt):=blk_cell hx 2
 have fin : Hid (∀ W1,Below (w.alloc (.cells #[.int .i64 dk,.int .i64 dn,.string dt,.slice ka kn kc] 54)).heap.size (w.alloc (.cells #[.int .i64 dk,.int .i64 dn,.string dt,.slice ka kn kc] 54)) W1 -> NPost B g vL w ls W1):=fun W1 b=>NPost.of_below H.out (Bt HB.out b)
 clear h hx hk hkn
 by_cases k1 : dk = 1
 ·subst k1
  have ew : Hid (plainWd ls ⟨1,dn,dt,dl⟩ = wordR 3 0 0):=HPW.out
  have en : Hid (plainN ls ⟨1,dn,dt,dl⟩ = ls):=HPN.out
  have C:=hid (sword_any 3 0 (by unfold Z64;omega) (by unfold Z64;omega) (w.alloc (.cells #[.int .i64 1,.int .i64 dn,.string dt,.slice ka kn kc] 54)))
  obtain ⟨z,hz⟩ : ∃ z,z = wordR 3 0 0:=⟨_,rfl⟩
  rw [<- hz] at C ew
  clear hz
  go_enter Tryz.func92,Tryz.ntmps92
  go_wp2_with (go_at_call 146;(with_reducible refine C.out.mono ?_);rintro e W1 ⟨rfl,b1⟩;have HB1:=hid b1;clear b1)
  go_ret
  rw [ew.out,en.out]
  exact ⟨rfl,fin.out _ HB1.out⟩
 by_cases k2 : dk = 2
 ·subst k2
  have ew : Hid (plainWd ls ⟨2,dn,dt,dl⟩ = wordR 3 (1 + dn) 0):=HPW.out
  have en : Hid (plainN ls ⟨2,dn,dt,dl⟩ = ls):=HPN.out
  have C:=hid (sword_any 3 (1 + dn) (by unfold Z64;omega) (by unfold Z64;omega) (w.alloc (.cells #[.int .i64 2,.int .i64 dn,.string dt,.slice ka kn kc] 54)))
  obtain ⟨z,hz⟩ : ∃ z,z = wordR 3 (1 + dn) 0:=⟨_,rfl⟩
  rw [<- hz] at C ew
  clear hz
  go_enter Tryz.func92,Tryz.ntmps92
  go_wp2_with (go_at_call 146;(with_reducible refine C.out.mono ?_);rintro e W1 ⟨rfl,b1⟩;have HB1:=hid b1;clear b1)
  go_ret
  rw [ew.out,en.out]
  exact ⟨rfl,fin.out _ HB1.out⟩
 by_cases k10 : dk = 10
 ·subst k10
  have ew : Hid (plainWd ls ⟨10,dn,dt,dl⟩ = wordR 3 3 0):=HPW.out
  have en : Hid (plainN ls ⟨10,dn,dt,dl⟩ = ls):=HPN.out
  have C:=hid (sword_any 3 3 (by unfold Z64;omega) (by unfold Z64;omega) (w.alloc (.cells #[.int .i64 10,.int .i64 dn,.string dt,.slice ka kn kc] 54)))
  obtain ⟨z,hz⟩ : ∃ z,z = wordR 3 3 0:=⟨_,rfl⟩
  rw [<- hz] at C ew
  clear hz
  go_enter Tryz.func92,Tryz.ntmps92
  go_wp2_with (go_at_call 146;(with_reducible refine C.out.mono ?_);rintro e W1 ⟨rfl,b1⟩;have HB1:=hid b1;clear b1)
  go_ret
  rw [ew.out,en.out]
  exact ⟨rfl,fin.out _ HB1.out⟩
 by_cases k11 : dk = 11
 ·subst k11
  have ew : Hid (plainWd ls ⟨11,dn,dt,dl⟩ = wordR 3 4 0):=HPW.out
  have en : Hid (plainN ls ⟨11,dn,dt,dl⟩ = ls):=HPN.out
  have C:=hid (sword_any 3 4 (by unfold Z64;omega) (by unfold Z64;omega) (w.alloc (.cells #[.int .i64 11,.int .i64 dn,.string dt,.slice ka kn kc] 54)))
  obtain ⟨z,hz⟩ : ∃ z,z = wordR 3 4 0:=⟨_,rfl⟩
  rw [<- hz] at C ew
  clear hz
  go_enter Tryz.func92,Tryz.ntmps92
  go_wp2_with (go_at_call 146;(with_reducible refine C.out.mono ?_);rintro e W1 ⟨rfl,b1⟩;have HB1:=hid b1;clear b1)
  go_ret
  rw [ew.out,en.out]
  exact ⟨rfl,fin.out _ HB1.out⟩
 by_cases k4 : dk = 4
 ·subst k4
  have ew : Hid (plainWd ls ⟨4,dn,dt,dl⟩ = wordR 4 dn 0):=HPW.out
  have en : Hid (plainN ls ⟨4,dn,dt,dl⟩ = ls):=HPN.out
  have C:=hid (sword_any 4 dn (by unfold Z64;omega) (by unfold Z64;omega) (w.alloc (.cells #[.int .i64 4,.int .i64 dn,.string dt,.slice ka kn kc] 54)))
  obtain ⟨z,hz⟩ : ∃ z,z = wordR 4 dn 0:=⟨_,rfl⟩
  rw [<- hz] at C ew
  clear hz
  go_enter Tryz.func92,Tryz.ntmps92
  go_wp2_with (go_at_call 146;(with_reducible refine C.out.mono ?_);rintro e W1 ⟨rfl,b1⟩;have HB1:=hid b1;clear b1)
  go_ret
  rw [ew.out,en.out]
  exact ⟨rfl,fin.out _ HB1.out⟩
 by_cases k6 : dk = 6
 ·subst k6
  have ew : Hid (plainWd ls ⟨6,dn,dt,dl⟩ = wordR 5 ((idM ls dt : Nat) : Int) 0):=HPW.out
  have en : Hid (plainN ls ⟨6,dn,dt,dl⟩ = idL ls dt):=HPN.out
  have CI:=hid (nid_any dt (w.alloc (.cells #[.int .i64 6,.int .i64 dn,.string dt,.slice ka kn kc] 54)) (H.out.on HB.out) (Nat.le_trans hB HB.out.size) hsm)
  have hid_:=idM_le ls dt
  obtain ⟨i,hi⟩ : ∃ i,i = idM ls dt:=⟨_,rfl⟩
  rw [<- hi] at CI ew hid_
  clear hi
  have CW:=hid (fun W=>sword_any 5 ((i : Nat) : Int) (by unfold Z64;omega) (by unfold Z64;omega) W)
  obtain ⟨z,hz⟩ : ∃ z,z = wordR 5 ((i : Nat) : Int) 0:=⟨_,rfl⟩
  rw [<- hz] at CW ew
  clear hz
  go_enter Tryz.func92,Tryz.ntmps92
  go_wp2_with (first
   | (go_at_call 33;(with_reducible refine CI.out.mono ?_);rintro e W1 ⟨rfl,p1⟩;have HP1:=hid p1;have C2:=hid (CW.out W1);clear p1)
   | (go_at_call 146;(with_reducible refine C2.out.mono ?_);rintro e W2 ⟨rfl,b2⟩;have HB2:=hid b2;clear b2))
  go_ret
  rw [ew.out,en.out]
  exact ⟨rfl,(HP1.out.behind HB2.out).front HB.out⟩
 obtain ⟨k3,hpt,hfx⟩ : dk = 3 /\ printedB dt = true /\ fixB (txZ dt) = true:=by
  rcases HK.out with e | e | e | e | e | e | e
  ·exact absurd e k1
  ·exact absurd e k2
  ·exact absurd e k4
  ·exact absurd e k6
  ·exact absurd e k10
  ·exact absurd e k11
  ·exact e
 subst k3
 clear k1 k2 k4 k6 k10 k11
 have ew : Hid (plainWd ls ⟨3,dn,dt,dl⟩ = wordR 1 (txZ dt) 0):=HPW.out
 have en : Hid (plainN ls ⟨3,dn,dt,dl⟩ = ls):=HPN.out
 have CP:=hid (txt_parse dt htx hpt (w.alloc (.cells #[.int .i64 3,.int .i64 dn,.string dt,.slice ka kn kc] 54)))
 have hzb : -1152921504606846976 <= txZ dt /\ txZ dt < 1152921504606846976:=by
  unfold fixB at hfx
  simpa using hfx
 have CW:=hid (fun W=>sword_any 1 (txZ dt) (by unfold Z64;omega) (by unfold Z64;omega) W)
 have HFX:=hid hfx
 obtain ⟨zt,hzt⟩ : ∃ z,z = txZ dt:=⟨_,rfl⟩
 rw [<- hzt] at CP CW ew hzb HFX
 obtain ⟨z,hz⟩ : ∃ z,z = wordR 1 zt 0:=⟨_,rfl⟩
 rw [<- hz] at CW ew
 clear hz hzt hfx hpt
 obtain ⟨z1,z2⟩:=hzb
 go_enter Tryz.func92,Tryz.ntmps92
 go_wp2_with (first
  | (go_at_call 80;(with_reducible refine CP.out.mono ?_);rintro e W1 ⟨neg,ao,n,cap,l,rfl,R,gd,hz,hl,hn,b1⟩;have HB1:=hid b1;have HB2:=hid (Ba W1 (.cells #[.bool neg,.slice ao n cap] 104));have hxi:=blk_new W1 #[.bool neg,.slice ao n cap] 104;have i0 : (W1.alloc (.cells #[.bool neg,.slice ao n cap] 104)).cell? ⟨W1.heap.size,0,none⟩ = some (.bool neg):=blk_cell hxi 0;have i1 : (W1.alloc (.cells #[.bool neg,.slice ao n cap] 104)).cell? ⟨W1.heap.size,1,none⟩ = some (.slice ao n cap):=blk_cell hxi 1;have CF:=hid (fixed_any neg ao n cap l (W1.alloc (.cells #[.bool neg,.slice ao n cap] 104)) (R.below HB2.out) gd);rw [hz] at CF;unfold FixPost at CF;rw [HFX.out] at CF;clear R gd hz hl b1 hxi)
  | (go_at_call 99;(with_reducible refine CF.out.mono ?_);rintro e W2 ⟨v,rfl,hv,b2⟩;have HBW2:=hid (Bt (Bt HB1.out HB2.out) b2);rw [hv (by simp)];have C2:=hid (CW.out W2);clear b2 hv)
  | (go_at_call 146;(with_reducible refine C2.out.mono ?_);rintro e W3 ⟨rfl,b3⟩;have HB3:=hid (Bt HBW2.out b3);clear b3))
 go_ret
 rw [ew.out,en.out]
 exact ⟨rfl,fin.out _ HB3.out⟩
def fieldsK (d : Nd) : Int:=if d.kind = 3 then 5 else if d.kind = 5 then 3 else if d.kind = 9 then 4 else if d.kind = 7 then 1 else 2
def bytesL (t : ByteArray) (n : Nat) : List Int:=(List.range n).map (fun i=>wordR 1 (byteAt t i : Nat) 0)
def fieldsL (d : Nd) (ws : List Int) : List Int :=
 if d.kind = 3 then bigL (decide (txZ d.text < 0)) (mg (txZ d.text).natAbs) else if d.kind = 5 then (ltrs d.text).map (fun c=>wordR 4 c 0)
 else if d.kind = 9 then bytesL d.text d.text.size else d.kids.map (fun k=>ws.getD k.toNat 0)
theorem runeD_lt (s : ByteArray) (i : Nat) : (runeD s i).1 <= 1114111:=by
 have hl : ∀ n : Nat,letB (n : Int) = true -> n <= 1114111:=fun n h=>by
  unfold letB at h
  simp only [Bool.and_eq_true,decide_eq_true_eq] at h
  omega
 by_cases h1 : byteAt s i < 128
 ·rw [runeD_1 h1];show byteAt s i <= 1114111;omega
 by_cases h2 : byteAt s i < 192
 ·rw [runeD_bad (.inl ⟨by omega,h2⟩)];exact Nat.zero_le _
 by_cases h3 : byteAt s i < 224
 ·rw [runeD_2 (by omega) h3]
  split
  ·have := cvs_lt s i (byteAt s i % 32) (by omega) 1
   show cvs s i (byteAt s i % 32) 1 <= 1114111
   omega
  ·exact Nat.zero_le _
 by_cases h4 : byteAt s i < 240
 ·rw [runeD_3 (by omega) h4]
  split
  ·next h=>exact hl _ h.2.2.2
  ·exact Nat.zero_le _
 by_cases h5 : byteAt s i < 248
 ·rw [runeD_4 (by omega) h5]
  split
  ·next h=>exact hl _ h.2.2.2.2
  ·exact Nat.zero_le _
 ·rw [runeD_bad (.inr (by omega))];exact Nat.zero_le _
theorem ltF_bd (s : ByteArray) : ∀ f i,∀ z∈ltF s f i,0 <= z /\ z <= 1114111
 | 0,_,z,h=>by simp [ltF] at h
 | f + 1, i, z, h => by
  unfold ltF at h
  split at h
  ·rcases List.mem_cons.1 h with rfl | h
   ·have:=runeD_lt s i;omega
   ·exact ltF_bd s f _ z h
  ·simp at h
theorem ltrs_bd (s : ByteArray) : ∀ z∈ltrs s,0 <= z /\ z <= 1114111:=ltF_bd s _ _
theorem iz_get {l : List Int} {i : Nat} (h : i < l.length) : (iz l)[i]? = some (.int .i64 (l.getD i 0)):=by
 unfold iz;rw [List.getElem?_map,List.getD_eq_getElem?_getD,List.getElem?_eq_getElem h];rfl
theorem irow_own {w : World} {B : Nat} {e : TypeId} {v : Value} {l : List Int} (h : w.ownsRow B e 1 v l.length (iz l)) (hb : ∀ z∈l,I64 z) : ∃ ao cap,v = .slice ao l.length cap /\ IRow w ao l.length cap l:=by
 rcases h.2 with ⟨rfl,h0⟩ | ⟨g,cap,cur,rfl,h2,h3,h4,h5,h6,h7⟩
 ·have : l = [] := List.length_eq_zero_iff.1 h0
  subst this
  exact ⟨none,0,rfl,rfl,Nat.le_refl _,by unfold maxLen;omega,fun _=>rfl,hb,.inl rfl⟩
 ·refine ⟨some ⟨g, 0, none⟩, cap, rfl, rfl, h4, h5, fun e => (by cases e), hb, .inr ⟨g, 0, rfl, (Array.getElem?_eq_some_iff.1 h3).1, fun i hi => ?_⟩⟩
  rw [Nat.zero_add,blk_cell h3]
  have : cur[i]? = (iz l)[i]?:=by rw [<- h7,List.getElem?_take,if_pos (by omega)];simp
  rw [this,iz_get hi]
theorem map_take {α : Type} {l : List Int} {q : Nat} (f : Int -> α) (h : q < l.length) : (l.take (q + 1)).map f = (l.take q).map f ++ [f (l.getD q 0)]:=by
 rw [List.take_succ_eq_append_getElem h,List.map_append,List.getD_eq_getElem?_getD,List.getElem?_eq_getElem h];rfl
theorem bytesL_succ (t : ByteArray) (q : Nat) : bytesL t (q + 1) = bytesL t q ++ [wordR 1 (byteAt t q : Nat) 0]:=by
 unfold bytesL;rw [List.range_succ,List.map_append];rfl
theorem bytesL_len (t : ByteArray) (q : Nat) : (bytesL t q).length = q:=by simp [bytesL]
theorem fieldsL_u (d : Nd) {ws : List Int} (hw : ∀ z∈ws,U64 z) : ∀ z∈fieldsL d ws,U64 z:=by
 intro z hz
 unfold fieldsL at hz
 split at hz
 ·exact bigL_u _ _ z hz
 split at hz
 ·obtain ⟨x,_,rfl⟩:=List.mem_map.1 hz;exact wordR_rng _ _ _
 split at hz
 ·unfold bytesL at hz;obtain ⟨x,_,rfl⟩:=List.mem_map.1 hz;exact wordR_rng _ _ _
 ·obtain ⟨k, _, rfl⟩ := List.mem_map.1 hz
  rw [List.getD_eq_getElem?_getD]
  by_cases h : k.toNat < ws.length
  ·rw [List.getElem?_eq_getElem h];exact hw _ (List.getElem_mem _)
  ·rw [List.getElem?_eq_none (by omega)];exact ⟨Int.le_refl _,by decide⟩
theorem neg_of {neg : Bool} {l : List Nat} {z : Int} (g : goodB neg l = true) (hz : sgn neg (val B32 l) = z) : neg = decide (z < 0):=by
 subst hz
 cases neg
 ·exact (decide_eq_false (by simp [sgn])).symm
 ·have h0 : l ≠ [] := fun e => by have := goodB_neg g (by rw [e]; rfl); cases this
  have:=(goodB_tr g).ne_zero (B:=B32) (by decide) h0
  exact (decide_eq_true (by simp [sgn];omega)).symm
def FldPost (d : Nd) (ws : List Int) (w : World) (e : Ending) (w' : World) : Prop:=∃ v,e = .returned (.tuple #[.int .i64 (fieldsK d),v]) /\ w'.ownsRow w.heap.size 44 1 v (fieldsL d ws).length (uz (fieldsL d ws)) /\ Below w.heap.size w w'
set_option maxHeartbeats 4000000 in
theorem fields_big (d : Nd) (ka : Option Addr) (kc : Nat) (aW : Option Addr) (nW cW : Nat) (ws : List Int) (w : World) (hk : d.kind = 3) (htx : d.text.size <= 5000) (hp : printedB d.text = true) :
  Calls Tryz.prog 94 #[NdVal d ka kc,.slice aW nW cW] w (FldPost d ws w):=by
 have HB:=hid (Ba w (.cells #[.int .i64 d.kind,.int .i64 d.num,.string d.text,.slice ka d.kids.length kc] 54))
 have hx:=blk_new w #[.int .i64 d.kind,.int .i64 d.num,.string d.text,.slice ka d.kids.length kc] 54
 have HFL : Hid (fieldsL d ws = bigL (decide (txZ d.text < 0)) (mg (txZ d.text).natAbs)):=if_pos hk
 have HFK : Hid (fieldsK d = 5):=if_pos hk
 unfold NdVal
 obtain ⟨dk,dn,dt,dl⟩:=d
 simp only at HB hx HFL HFK htx hp hk ⊢
 subst hk
 obtain ⟨kn,hkn⟩ : ∃ n,n = dl.length:=⟨_,rfl⟩
 rw [<- hkn] at HB hx ⊢
 have c0 : (w.alloc (.cells #[.int .i64 3,.int .i64 dn,.string dt,.slice ka kn kc] 54)).cell? ⟨w.heap.size,0,none⟩ = some (.int .i64 3):=blk_cell hx 0
 have c2 : (w.alloc (.cells #[.int .i64 3,.int .i64 dn,.string dt,.slice ka kn kc] 54)).cell? ⟨w.heap.size,2,none⟩ = some (.string dt):=blk_cell hx 2
 have CP:=hid (txt_parse dt htx hp (w.alloc (.cells #[.int .i64 3,.int .i64 dn,.string dt,.slice ka kn kc] 54)))
 have HT : Hid (∀ neg l,goodB neg l = true -> sgn neg (val B32 l) = txZ dt -> l = mg (txZ dt).natAbs -> bigL neg l = bigL (decide (txZ dt < 0)) (mg (txZ dt).natAbs)):=fun neg l g hz hl=>by rw [neg_of g hz,<- hl]
 clear hx hp hkn
 go_enter Tryz.func94,Tryz.ntmps94
 go_wp2_with (first
  | (go_at_call 80;(with_reducible refine CP.out.mono ?_);rintro e W1 ⟨neg,ao,n,cap,l,rfl,R,gd,hz,hl,hn,b1⟩;have HB1:=hid (Bt HB.out b1);have HB2:=hid (Ba W1 (.cells #[.bool neg,.slice ao n cap] 104));have hxi:=blk_new W1 #[.bool neg,.slice ao n cap] 104;have i0 : (W1.alloc (.cells #[.bool neg,.slice ao n cap] 104)).cell? ⟨W1.heap.size,0,none⟩ = some (.bool neg):=blk_cell hxi 0;have i1 : (W1.alloc (.cells #[.bool neg,.slice ao n cap] 104)).cell? ⟨W1.heap.size,1,none⟩ = some (.slice ao n cap):=blk_cell hxi 1;have CB:=hid (big_any neg ao n cap l (W1.alloc (.cells #[.bool neg,.slice ao n cap] 104)) (R.below HB2.out) (by omega));have HE:=hid (HT.out neg l gd hz hl);have HNL:=hid R.len;rw [HE.out] at CB;clear R gd hz hl b1 hxi)
  | (go_at_call 148;(with_reducible refine CB.out.mono ?_);rintro e W2 ⟨v,rfl,hv,b2⟩;have HO:=hid hv;have HB3:=hid (Bt (Bt HB1.out HB2.out) b2);clear hv b2))
 go_ret2
 have hlen : n + 1 = (bigL (decide (txZ dt < 0)) (mg (txZ dt).natAbs)).length:=by rw [<- HE.out,bigL_len,HNL.out]
 unfold FldPost
 rw [HFK.out,HFL.out,<- hlen]
 exact ⟨_,rfl,own_weak HO.out (Bt HB1.out HB2.out).size,HB3.out⟩
set_option maxHeartbeats 4000000 in
theorem fields_string (d : Nd) (ka : Option Addr) (kc : Nat) (aW : Option Addr) (nW cW : Nat) (ws : List Int) (w : World) (hk : d.kind = 5) (htx : d.text.size <= 1000000) :
  Calls Tryz.prog 94 #[NdVal d ka kc,.slice aW nW cW] w (FldPost d ws w):=by
 have HB:=hid (Ba w (.cells #[.int .i64 d.kind,.int .i64 d.num,.string d.text,.slice ka d.kids.length kc] 54))
 have hx:=blk_new w #[.int .i64 d.kind,.int .i64 d.num,.string d.text,.slice ka d.kids.length kc] 54
 have HFL : Hid (fieldsL d ws = (ltrs d.text).map (fun c=>wordR 4 c 0)):=by
  unfold Hid fieldsL;rw [if_neg (by omega),if_pos hk]
 have HFK : Hid (fieldsK d = 3):=by
  unfold Hid fieldsK;rw [if_neg (by omega),if_pos hk]
 unfold NdVal
 obtain ⟨dk,dn,dt,dl⟩:=d
 simp only at HB hx HFL HFK htx hk ⊢
 subst hk
 obtain ⟨kn,hkn⟩ : ∃ n,n = dl.length:=⟨_,rfl⟩
 rw [<- hkn] at HB hx ⊢
 have c0 : (w.alloc (.cells #[.int .i64 5,.int .i64 dn,.string dt,.slice ka kn kc] 54)).cell? ⟨w.heap.size,0,none⟩ = some (.int .i64 5):=blk_cell hx 0
 have c2 : (w.alloc (.cells #[.int .i64 5,.int .i64 dn,.string dt,.slice ka kn kc] 54)).cell? ⟨w.heap.size,2,none⟩ = some (.string dt):=blk_cell hx 2
 have CL:=hid (letters_any dt htx (w.alloc (.cells #[.int .i64 5,.int .i64 dn,.string dt,.slice ka kn kc] 54)))
 have hll:=ltrs_len dt
 have HLB:=hid (ltrs_bd dt)
 obtain ⟨l,hl⟩ : ∃ l,l = ltrs dt:=⟨_,rfl⟩
 rw [<- hl] at CL hll HLB HFL
 clear hx hkn hl
 go_enter Tryz.func94,Tryz.ntmps94
 go_wp2_with (go_at_call 145;(with_reducible refine CL.out.mono ?_);rintro e W1 ⟨v,rfl,hv,b1⟩;obtain ⟨aL,cL,rfl,hR⟩:=irow_own hv (fun z hz=>by have:=HLB.out z hz;unfold I64;omega);have HR:=hid hR;have hf:=hR.fits;have hm:=hR.most;have HB1:=hid (Bt HB.out b1);clear hv hR b1)
 unfold maxLen at hm
 obtain ⟨n,hn⟩ : ∃ n,n = l.length:=⟨_,rfl⟩
 rw [<- hn] at HR hf hll ⊢
 have HN:=hid hn
 clear hn
 go_loopw [6,10] (fun v i wr=>∃ q : Nat,q <= n /\ i = .int .i64 q /\ Hid (wr.ownsRow W1.heap.size 44 1 v q (uz ((l.take q).map (fun c=>wordR 4 c 0))) /\ Below W1.heap.size W1 wr)) (fun _ i _=>n - (intOf i).toNat)
 case atStart=>exact ⟨0,Nat.zero_le _,rfl,World.ownsRow_nil _ _ _ _,Below.refl _ _⟩
 case round =>
  obtain ⟨q,hq,rfl,hI⟩:=hrel
  have HOQ:=hid hI.out.1
  have HBQ:=hid hI.out.2
  clear hI
  by_cases hlt : q < n
  ·obtain ⟨b, o, rfl, hlb, hcc⟩ := (HR.out.below HBQ.out).some (by omega)
   have hck:=hcc q hlt
   have hql : Hid (q < l.length):=by unfold Hid;rw [<- HN.out];exact hlt
   have hxb : 0 <= l.getD q 0 /\ l.getD q 0 <= 1114111:=by
    rw [List.getD_eq_getElem?_getD,List.getElem?_eq_getElem hql.out];exact HLB.out _ (List.getElem_mem _)
   have C1:=hid (sword_any 4 (l.getD q 0) (by unfold Z64;omega) (by unfold Z64;omega) wr)
   have HT:=hid (map_take (fun c=>wordR 4 c 0) hql.out)
   obtain ⟨x,hx⟩ : ∃ x,x = l.getD q 0:=⟨_,rfl⟩
   rw [<- hx] at hck C1 HT hxb
   obtain ⟨x0,x1⟩:=hxb
   obtain ⟨zx,hzx⟩ : ∃ z,z = wordR 4 x 0:=⟨_,rfl⟩
   have hzu : Hid (U64 zx):=by unfold Hid;rw [hzx];exact wordR_rng _ _ _
   rw [<- hzx] at C1 HT
   clear hcc hx hzx
   go_wp2_with (first
    | (go_at_call 146;(with_reducible refine C1.out.mono ?_);rintro e W2 ⟨rfl,b1⟩;have HB2:=hid (b1.mono HBQ.out.size);have HBW1:=hid (HBQ.out.trans HB2.out);have HO1:=hid (uown_on (uown_on HOQ.out b1) (Ba W2 (.cells #[.int .u64 zx] 44)));have HU1:=hid (urow_one (blk_new W2 #[.int .u64 zx] 44) hzu.out);have HBA:=hid (HBW1.out.trans ((Ba W2 (.cells #[.int .u64 zx] 44)).mono HBW1.out.size));have HSA:=hid HBA.out.size;clear b1)
    | (at_builtin;refine appU rfl _ _ 23 rfl W1.heap.size 44 Tryz.underlying23 info_word _ q ((l.take q).map (fun c=>wordR 4 c 0)) rfl HO1.out (some ⟨W2.heap.size,0,none⟩) 1 1 [zx] rfl HU1.out (by omega) HSA.out ?_;intro v2 w2 ho2 hg2))
   have HE : Hid (Below W1.heap.size W1 w2):=HBA.out.grown hg2 HSA.out (fun b hb=>(HO1.out.lt b hb).1)
   refine ⟨⟨q + 1,by omega,by go_num,?_,HE.out⟩,by simp [intOf] <;> omega⟩
   rw [HT.out];exact ho2
  ·obtain rfl : q = n := by omega
   go_wp2_with fail
   go_ret2
   have hO:=HOQ.out
   rw [List.take_of_length_le (by rw [<- HN.out];exact Nat.le_refl _)] at hO
   unfold FldPost
   rw [HFK.out,HFL.out,List.length_map,<- HN.out]
   exact ⟨_,rfl,own_weak hO HB1.out.size,Bt HB1.out HBQ.out⟩
set_option maxHeartbeats 4000000 in
theorem fields_bytes (d : Nd) (ka : Option Addr) (kc : Nat) (aW : Option Addr) (nW cW : Nat) (ws : List Int) (w : World) (hk : d.kind = 9) (htx : d.text.size <= 1000000) :
  Calls Tryz.prog 94 #[NdVal d ka kc,.slice aW nW cW] w (FldPost d ws w):=by
 have HB:=hid (Ba w (.cells #[.int .i64 d.kind,.int .i64 d.num,.string d.text,.slice ka d.kids.length kc] 54))
 have hx:=blk_new w #[.int .i64 d.kind,.int .i64 d.num,.string d.text,.slice ka d.kids.length kc] 54
 have HX:=hid hx
 have HFL : Hid (fieldsL d ws = bytesL d.text d.text.size):=by
  unfold Hid fieldsL;rw [if_neg (by omega),if_neg (by omega),if_pos hk]
 have HFK : Hid (fieldsK d = 4):=by
  unfold Hid fieldsK;rw [if_neg (by omega),if_neg (by omega),if_pos hk]
 unfold NdVal
 obtain ⟨dk,dn,dt,dl⟩:=d
 simp only at HB hx HX HFL HFK htx hk ⊢
 subst hk
 obtain ⟨kn,hkn⟩ : ∃ n,n = dl.length:=⟨_,rfl⟩
 rw [<- hkn] at HB hx HX ⊢
 have c0 : (w.alloc (.cells #[.int .i64 9,.int .i64 dn,.string dt,.slice ka kn kc] 54)).cell? ⟨w.heap.size,0,none⟩ = some (.int .i64 9):=blk_cell hx 0
 obtain ⟨W0,hW0⟩ : ∃ W,W = w.alloc (.cells #[.int .i64 9,.int .i64 dn,.string dt,.slice ka kn kc] 54):=⟨_,rfl⟩
 have eW : Hid (w.alloc (.cells #[.int .i64 9,.int .i64 dn,.string dt,.slice ka kn kc] 54) = W0):=hW0.symm
 rw [eW.out] at HB HX
 have HS : Hid (w.heap.size < W0.heap.size):=by unfold Hid;rw [hW0,size_alloc];omega
 have HC : Hid (∀ W,Below W0.heap.size W0 W -> W.cell? ⟨w.heap.size,2,none⟩ = some (.string dt)):=fun W b=>blk_cell ((b.block w.heap.size HS.out).trans HX.out) 2
 clear hx hkn hW0
 go_enter Tryz.func94,Tryz.ntmps94
 go_wp2_with fail
 rw [eW.out]
 clear c0
 go_loopw [6,11] (fun v i wr=>∃ q : Nat,q <= dt.size /\ i = .int .i64 q /\ Hid (wr.ownsRow W0.heap.size 44 1 v q (uz (bytesL dt q)) /\ Below W0.heap.size W0 wr)) (fun _ i _=>dt.size - (intOf i).toNat)
 case atStart=>exact ⟨0,Nat.zero_le _,rfl,World.ownsRow_nil _ _ _ _,Below.refl _ _⟩
 case round =>
  obtain ⟨q,hq,rfl,hI⟩:=hrel
  have HOQ:=hid hI.out.1
  have HBQ:=hid hI.out.2
  have d2:=HC.out wr HBQ.out
  clear hI
  by_cases hlt : q < dt.size
  ·have hb0 := byteAt_get hlt
   have hbl:=byteAt_lt dt q
   have C1:=hid (sword_any 1 (byteAt dt q : Nat) (by unfold Z64;omega) (by unfold Z64;omega) wr)
   have HT:=hid (bytesL_succ dt q)
   obtain ⟨x,hx⟩ : ∃ x,x = byteAt dt q:=⟨_,rfl⟩
   rw [<- hx] at hb0 hbl C1 HT
   obtain ⟨zx,hzx⟩ : ∃ z,z = wordR 1 ((x : Nat) : Int) 0:=⟨_,rfl⟩
   have hzu : Hid (U64 zx):=by unfold Hid;rw [hzx];exact wordR_rng _ _ _
   rw [<- hzx] at C1 HT
   clear hx hzx
   go_wp2_with (first
    | (go_at_call 146;(with_reducible refine C1.out.mono ?_);rintro e W2 ⟨rfl,b1⟩;have HB2:=hid (b1.mono HBQ.out.size);have HBW1:=hid (HBQ.out.trans HB2.out);have HO1:=hid (uown_on (uown_on HOQ.out b1) (Ba W2 (.cells #[.int .u64 zx] 44)));have HU1:=hid (urow_one (blk_new W2 #[.int .u64 zx] 44) hzu.out);have HBA:=hid (HBW1.out.trans ((Ba W2 (.cells #[.int .u64 zx] 44)).mono HBW1.out.size));have HSA:=hid HBA.out.size;clear b1)
    | (at_builtin;refine appU rfl _ _ 23 rfl W0.heap.size 44 Tryz.underlying23 info_word _ q (bytesL dt q) rfl HO1.out (some ⟨W2.heap.size,0,none⟩) 1 1 [zx] rfl HU1.out (by omega) HSA.out ?_;intro v2 w2 ho2 hg2))
   have HE : Hid (Below W0.heap.size W0 w2):=HBA.out.grown hg2 HSA.out (fun b hb=>(HO1.out.lt b hb).1)
   refine ⟨⟨q + 1,by omega,by go_num,?_,HE.out⟩,by simp [intOf] <;> omega⟩
   rw [HT.out];exact ho2
  ·obtain rfl : q = dt.size := by omega
   go_wp2_with fail
   go_ret2
   unfold FldPost
   rw [HFK.out,HFL.out,bytesL_len]
   exact ⟨_,rfl,own_weak HOQ.out HB.out.size,Bt HB.out HBQ.out⟩
set_option maxHeartbeats 4000000 in
theorem fields_kids (d : Nd) (ka : Option Addr) (kc : Nat) (aW : Option Addr) (nW cW : Nat) (ws : List Int) (w : World) (hk : d.kind = 7 \/ d.kind = 8) (hK : IRow w ka d.kids.length kc d.kids) (hW : URow w aW nW cW ws) (hin : ∀ k∈d.kids,0 <= k /\ k < nW) (hks : d.kids.length <= 1000000) :
  Calls Tryz.prog 94 #[NdVal d ka kc,.slice aW nW cW] w (FldPost d ws w):=by
 have HB:=hid (Ba w (.cells #[.int .i64 d.kind,.int .i64 d.num,.string d.text,.slice ka d.kids.length kc] 54))
 have hx:=blk_new w #[.int .i64 d.kind,.int .i64 d.num,.string d.text,.slice ka d.kids.length kc] 54
 have HX:=hid hx
 have HFL : Hid (fieldsL d ws = d.kids.map (fun k : Int=>ws.getD k.toNat 0)):=by
  unfold Hid fieldsL;rw [if_neg (by omega),if_neg (by omega),if_neg (by omega)]
 have HFK : Hid (fieldsK d = if d.kind = 7 then 1 else 2):=by
  unfold Hid fieldsK;rw [if_neg (by omega),if_neg (by omega),if_neg (by omega)]
 have HK:=hid hK
 have HW:=hid hW
 have HIN:=hid hin
 have hkf:=hK.fits
 have hkm:=hK.most
 have hwf:=hW.fits
 have hwm:=hW.most
 have hwl:=hW.len
 unfold maxLen at hkm hwm
 unfold NdVal
 obtain ⟨dk,dn,dt,dl⟩:=d
 simp only at HB hx HX HFL HFK HK HIN hks hk hkf ⊢
 obtain ⟨kn,hkn⟩ : ∃ n,n = dl.length:=⟨_,rfl⟩
 rw [<- hkn] at HB hx HX HK hks hkf ⊢
 have HN:=hid hkn
 have c0 : (w.alloc (.cells #[.int .i64 dk,.int .i64 dn,.string dt,.slice ka kn kc] 54)).cell? ⟨w.heap.size,0,none⟩ = some (.int .i64 dk):=blk_cell hx 0
 obtain ⟨W0,hW0⟩ : ∃ W,W = w.alloc (.cells #[.int .i64 dk,.int .i64 dn,.string dt,.slice ka kn kc] 54):=⟨_,rfl⟩
 have eW : Hid (w.alloc (.cells #[.int .i64 dk,.int .i64 dn,.string dt,.slice ka kn kc] 54) = W0):=hW0.symm
 rw [eW.out] at HB HX
 have HS : Hid (w.heap.size < W0.heap.size):=by unfold Hid;rw [hW0,size_alloc];omega
 have HC : Hid (∀ W,Below W0.heap.size W0 W -> W.cell? ⟨w.heap.size,3,none⟩ = some (.slice ka kn kc) /\ W.cell? ⟨w.heap.size,0,none⟩ = some (.int .i64 dk)):=fun W b=>⟨blk_cell ((b.block w.heap.size HS.out).trans HX.out) 3,blk_cell ((b.block w.heap.size HS.out).trans HX.out) 0⟩
 have HKW : Hid (∀ W,Below W0.heap.size W0 W -> IRow W ka kn kc dl /\ URow W aW nW cW ws):=fun W b=>⟨HK.out.below (Bt HB.out b),HW.out.on (Bt HB.out b)⟩
 have e3 : (dk == 3) = false:=by simp;omega
 have e5 : (dk == 5) = false:=by simp;omega
 have e9 : (dk == 9) = false:=by simp;omega
 have HKD:=hid hk
 clear hx hkn hW0 hK hW hin hk
 go_enter Tryz.func94,Tryz.ntmps94
 go_wp2_with fail
 rw [eW.out]
 clear c0 e3 e5 e9
 go_loopw [6,12] (fun v i wr=>∃ q : Nat,q <= kn /\ i = .int .i64 q /\ Hid (wr.ownsRow W0.heap.size 44 1 v q (uz ((dl.take q).map (fun k : Int=>ws.getD k.toNat 0))) /\ Below W0.heap.size W0 wr)) (fun _ i _=>kn - (intOf i).toNat)
 case atStart=>exact ⟨0,Nat.zero_le _,rfl,World.ownsRow_nil _ _ _ _,Below.refl _ _⟩
 case round =>
  obtain ⟨q,hq,rfl,hI⟩:=hrel
  have HOQ:=hid hI.out.1
  have HBQ:=hid hI.out.2
  obtain ⟨d3,d0⟩:=HC.out wr HBQ.out
  clear hI
  by_cases hlt : q < kn
  ·have hql : Hid (q < dl.length) := by unfold Hid; rw [<- HN.out]; exact hlt
   have hxb : 0 <= dl.getD q 0 /\ dl.getD q 0 < nW:=by
    rw [List.getD_eq_getElem?_getD,List.getElem?_eq_getElem hql.out];exact HIN.out _ (List.getElem_mem _)
   obtain ⟨b,o,rfl,hlb,hcc⟩:=(HKW.out wr HBQ.out).1.some (by omega)
   have hck:=hcc q hlt
   have HT:=hid (map_take (fun k : Int=>ws.getD k.toNat 0) hql.out)
   obtain ⟨x,hx⟩ : ∃ x : Nat,dl.getD q 0 = (x : Int):=⟨(dl.getD q 0).toNat,by omega⟩
   rw [hx] at hck HT hxb
   have hxn : x < nW:=by omega
   have hU:=(HKW.out wr HBQ.out).2
   obtain ⟨b2,o2,rfl,hlb2,hcc2⟩:=hU.rd.resolve_left (fun e=>by rw [e] at hwl;simp at hwl;omega)
   have hcw:=hcc2 x (by omega)
   have HT' : Hid ((dl.take (q + 1)).map (fun k : Int=>ws.getD k.toNat 0) = (dl.take q).map (fun k : Int=>ws.getD k.toNat 0) ++ [ws.getD x 0]):=by
    unfold Hid;rw [HT.out,Int.toNat_natCast]
   have hzu : Hid (U64 (ws.getD x 0)):=by
    unfold Hid;rw [List.getD_eq_getElem?_getD,List.getElem?_eq_getElem (by omega)];exact hU.bd _ (List.getElem_mem _)
   obtain ⟨zx,hzx⟩ : ∃ z,z = ws.getD x 0:=⟨_,rfl⟩
   rw [<- hzx] at hcw HT' hzu
   have HO1:=hid (uown_on HOQ.out (Ba wr (.cells #[.int .u64 zx] 44)))
   have HU1:=hid (urow_one (blk_new wr #[.int .u64 zx] 44) hzu.out)
   have HBA:=hid (HBQ.out.trans ((Ba wr (.cells #[.int .u64 zx] 44)).mono HBQ.out.size))
   have HSA:=hid HBA.out.size
   clear hcc hcc2 hzx hU HT hx hxb d0
   go_wp2_with (at_builtin;refine appU rfl _ _ 23 rfl W0.heap.size 44 Tryz.underlying23 info_word _ q ((dl.take q).map (fun k : Int=>ws.getD k.toNat 0)) rfl HO1.out (some ⟨wr.heap.size,0,none⟩) 1 1 [zx] rfl HU1.out (by omega) HSA.out ?_;intro v2 w2 ho2 hg2)
   have HE : Hid (Below W0.heap.size W0 w2):=HBA.out.grown hg2 HSA.out (fun b hb=>(HO1.out.lt b hb).1)
   refine ⟨⟨q + 1,by omega,by go_num,?_,HE.out⟩,by simp [intOf] <;> omega⟩
   rw [HT'.out];exact ho2
  ·obtain rfl : q = kn := by omega
   have fin : Hid (∀ v,wr.ownsRow W0.heap.size 44 1 v q (uz ((dl.take q).map (fun k : Int=>ws.getD k.toNat 0))) -> wr.ownsRow w.heap.size 44 1 v (dl.map (fun k : Int=>ws.getD k.toNat 0)).length (uz (dl.map (fun k : Int=>ws.getD k.toNat 0))) /\ Below w.heap.size w wr):=fun v hO=>by
    rw [List.take_of_length_le (by rw [<- HN.out];exact Nat.le_refl _)] at hO
    rw [List.length_map,<- HN.out]
    exact ⟨own_weak hO HB.out.size,Bt HB.out HBQ.out⟩
   rcases HKD.out with rfl | rfl
   ·rw [if_pos rfl] at HFK
    go_wp2_with fail
    go_ret2
    unfold FldPost
    rw [HFK.out,HFL.out]
    obtain ⟨f1,f2⟩:=fin.out _ HOQ.out
    exact ⟨_,rfl,f1,f2⟩
   ·rw [if_neg (by decide)] at HFK
    go_wp2_with fail
    go_ret2
    unfold FldPost
    rw [HFK.out,HFL.out]
    obtain ⟨f1,f2⟩:=fin.out _ HOQ.out
    exact ⟨_,rfl,f1,f2⟩
theorem fields_any (d : Nd) (ka : Option Addr) (kc : Nat) (aW : Option Addr) (nW cW : Nat) (ws : List Int) (w : World) (hk : 0 < sizeN d) (hp : d.kind = 3 -> printedB d.text = true) (htx : d.text.size <= 5000) (hK : IRow w ka d.kids.length kc d.kids) (hW : URow w aW nW cW ws) (hin : ∀ k∈d.kids,0 <= k /\ k < nW) (hks : d.kids.length <= 1000000) :
  Calls Tryz.prog 94 #[NdVal d ka kc,.slice aW nW cW] w (FldPost d ws w):=by
 unfold sizeN at hk
 split at hk
 ·omega
 by_cases h3 : d.kind = 3
 ·exact fields_big d ka kc aW nW cW ws w h3 htx (hp h3)
 rw [if_neg h3] at hk
 by_cases h5 : d.kind = 5
 ·exact fields_string d ka kc aW nW cW ws w h5 (by omega)
 rw [if_neg h5] at hk
 by_cases h7 : d.kind = 7 \/ d.kind = 8
 ·exact fields_kids d ka kc aW nW cW ws w h7 hK hW hin hks
 rw [if_neg h7] at hk
 by_cases h9 : d.kind = 9
 ·exact fields_bytes d ka kc aW nW cW ws w h9 (by omega)
 rw [if_neg h9] at hk
 omega
end Go.Proofs.YticimejfjjmikaaGreatDoor
