import Derived.Test.YticimejfjjmikaaGreatDoorQ1
import Derived.Test.YticimejfjjmikaaGreatDoorW16
import Derived.Test.YticimejfjjmikaaGreatDoorU0
import Derived.Test.YticimejfjjmikaaGreatDoorSG3
import Derived.Test.YticimejfjjmikaaGreatDoorG9
import Derived.Test.YticimejfjjmikaaGreatDoorST3
import Derived.Test.YticimejfjjmikaaGreatDoorG3
set_option linter.unusedVariables false
set_option linter.unusedSimpArgs false
namespace Go.Proofs.YticimejfjjmikaaGreatDoor
open Go.RowKit
theorem dgt_chr {d : Nat} (h : d < 36) : dgt (chr d) = d:=by
 unfold dgt chr
 by_cases h1 : d < 10
 ·rw [if_pos h1,if_pos (by omega)];omega
 ·rw [if_neg h1,if_neg (by omega),if_pos (by omega)];omega
theorem hv_rev (radix : Nat) : ∀ {D : List Nat},(∀ x∈D,x < 36) -> hv radix ((D.map chr).reverse) = val radix D
 | [],_=>rfl
 | d :: D,h=>by
  rw [List.map_cons,List.reverse_cons,hv_snoc,hv_rev radix (fun x hx=>h x (by simp [hx])),dgt_chr (h d (by simp)),val_cons,Nat.mul_comm]
  omega
def body (D : List Nat) : List Nat:=if D = [] then [48] else (D.map chr).reverse
theorem body_val {radix : Nat} {D : List Nat} (h : Dg radix D) (hr : radix <= 36) : hv radix (body D) = val radix D:=by
 unfold body
 by_cases hD : D = []
 ·subst hD;simp [hv,dgt,val]
 ·rw [if_neg hD];exact hv_rev radix (fun x hx=>by have:=h x hx;omega)
theorem body_digits {radix : Nat} {D : List Nat} (h : Dg radix D) (h2 : 2 <= radix) (hr : radix <= 36) : ∀ c∈body D,dgt c < radix:=by
 unfold body
 by_cases hD : D = []
 ·subst hD
  intro c hc
  simp at hc
  subst hc
  simp [dgt];omega
 ·rw [if_neg hD]
  intro c hc
  rw [List.mem_reverse] at hc
  obtain ⟨d,hd,rfl⟩:=List.mem_map.1 hc
  have:=h d hd
  rw [dgt_chr (by omega)];exact this
theorem body_ne (D : List Nat) : body D ≠ []:=by
 unfold body
 by_cases hD : D = []
 ·simp [hD]
 ·simp [hD]
theorem cutS_sg {l : List Nat} {c : Nat} {r : List Nat} (h : l = c :: r) (hc : c = 43 \/ c = 45) : cutS l = (decide (c = 45),r):=by
 subst h;simp [cutS,hc]
theorem cutS_none {radix : Nat} {l : List Nat} (h : ∀ c∈l,dgt c < radix) (hr : radix <= 36) : cutS l = (false,l):=by
 cases l with
 | nil=>rfl
 | cons c r =>
  have hc:=h c (by simp)
  have : ¬ (c = 43 \/ c = 45):=by
   rintro (rfl | rfl) <;> simp [dgt] at hc <;> omega
  simp [cutS,this]
theorem small_good {neg : Bool} {l : List Nat} (hd : Dg B32 l) (hg : goodB neg l = true) : ¬ Big (val B32 l):=by
 unfold Big
 have h1:=val_lt hd
 have h2 : B32 ^ l.length <= B32 ^ 40:=Nat.pow_le_pow_right (by decide) (goodB_len hg)
 omega
theorem digs_nil {v : Nat} (h : digs v v = []) : v = 0:=by
 have:=(digs_ok v v (Nat.le_refl _)).2.2.2
 exact Classical.byContradiction (fun e=>this e h)
theorem printL_body (neg : Bool) (v : Nat) (hn : neg = true -> v ≠ 0) : printL neg v = (if neg then [45] else []) ++ body (digs v v):=by
 unfold printL body
 by_cases e : digs v v = []
 ·rw [if_pos e, if_pos e]
  cases neg
  ·rfl
  ·exact absurd (digs_nil e) (hn rfl)
 ·rw [if_neg e,if_neg e]
theorem printL_cut (neg : Bool) (v : Nat) (hn : neg = true -> v ≠ 0) : cutS (printL neg v) = (neg,body (digs v v)):=by
 have hd:=(digs_ok v v (Nat.le_refl _)).1
 rw [printL_body neg v hn]
 cases neg
 ·exact cutS_none (radix:=10) (body_digits hd (by omega) (by omega)) (by omega)
 ·exact cutS_sg (c:=45) rfl (.inr rfl)
theorem printL_lt (neg : Bool) (v : Nat) : ∀ x∈printL neg v,x < 256:=by
 have hd:=(digs_ok v v (Nat.le_refl _)).1
 intro x hx
 unfold printL at hx
 split at hx
 ·rw [List.mem_singleton.1 hx];omega
 ·rcases List.mem_append.1 hx with hx | hx
  ·cases neg
   ·cases hx
   ·rw [List.mem_singleton.1 hx];omega
  ·rw [List.mem_reverse] at hx
   obtain ⟨d,hd',rfl⟩:=List.mem_map.1 hx
   exact chr_lt (Nat.lt_of_lt_of_le (hd d hd') (by omega))
theorem printed_ok {neg : Bool} {v : Nat} (hn : neg = true -> v ≠ 0) (hv40 : v < B32 ^ 40) : printedB (textOf (printL neg v)) = true:=by
 obtain ⟨hd,ht,hval,_⟩:=digs_ok v v (Nat.le_refl _)
 have h10 : ∀ c∈body (digs v v),dgt c < 10:=body_digits hd (by omega) (by omega)
 have hbv : hv 10 (body (digs v v)) = v:=by rw [body_val hd (by omega),hval]
 unfold printedB
 rw [bs_textOf (printL_lt neg v),printL_cut neg v hn]
 simp only
 rw [hbv]
 have e1 : digitsB 10 (body (digs v v)) = true:=by
  have:=digitsB_of (rx:=10) (l:=body (digs v v)) (List.length_pos_iff.2 (body_ne _)) (fun j hj=>h10 _ (by
   rw [List.getD_eq_getElem?_getD,List.getElem?_eq_getElem hj];exact List.getElem_mem hj))
  exact this
 have e2 : (neg && decide (v ≠ 0)) = neg:=by
  cases neg
  ·rfl
  ·rw [decide_eq_true (hn rfl)];rfl
 rw [e1,e2,decide_eq_true hv40,decide_eq_true rfl];rfl
theorem ofR_rt {x : Int} (h : nK x ≠ 0) : rightB (nK x) (nN x) (ofR x).2.2 = true:=by
 unfold nK nN at *
 unfold ofR at *
 split
 ·assumption
 ·rename_i hr
  rw [if_neg hr] at h
  exact absurd rfl h
theorem nK4_let {x : Int} (h : nK x = 4) : letB (nN x) = true:=by
 have:=ofR_rt (x:=x) (by omega)
 rw [h] at this
 have e : ltrB (nN x) = true:=by
  unfold rightB at this
  simp only [show ¬ ((4 : Int) = 1) by decide,show ¬ ((4 : Int) = 2) by decide,show ¬ ((4 : Int) = 3) by decide,if_false,if_true,Bool.and_eq_true] at this
  exact this.2
 exact e
theorem nK1_fix {x : Int} (h : nK x = 1) : fixB (nN x) = true:=by
 have:=ofR_rt (x:=x) (by omega)
 rw [h] at this
 exact this
theorem fix_lt {z : Int} (h : fixB z = true) : z.natAbs < B32 ^ 40:=by
 unfold fixB at h
 rw [Bool.and_eq_true,decide_eq_true_eq,decide_eq_true_eq] at h
 have h1 : z.natAbs < B32 ^ 2:=by
  have : B32 ^ 2 = 18446744073709551616:=by decide
  omega
 exact Nat.lt_of_lt_of_le h1 (Nat.pow_le_pow_right (by decide) (by omega))
theorem neg_nz {z : Int} : decide (z < 0) = true -> z.natAbs ≠ 0:=fun h=>by have:=of_decide_eq_true h;omega
theorem okD_mk {d : Nd} (h1 : 1 <= d.kind /\ d.kind <= 17) (h2 : numB d.kind d.num = true) (h3 : textB d.kind d.text = true) (h4 : countB d.kind d.kids.length = true) : okD d = true:=by
 unfold okD
 rw [decide_eq_true h1.1,decide_eq_true h1.2,h2,h3,h4];rfl
theorem ok_void : okD voidN = true:=okD_mk (by unfold voidN;simp) rfl rfl rfl
theorem ok_bare {k : Int} (h : k = 1 \/ k = 10 \/ k = 12 \/ k = 14 \/ k = 17) : okD ⟨k,0,ByteArray.empty,[]⟩ = true:=by
 rcases h with rfl | rfl | rfl | rfl | rfl <;> exact okD_mk (by simp) rfl (by first | rfl | decide) rfl
theorem lrT_spelt {f : List Int} (h : f.all lrB = true) : ∃ l : List Nat,l.length = f.length /\ (∀ c∈l,letB (c : Int) = true) /\ (textOf (lrT f)).data.toList = spelt l:=by
 have hall : ∀ x∈f,letB (nN x) = true:=fun x hx=>nK4_let (by
  have:=List.all_eq_true.1 h x hx
  unfold lrB at this
  exact of_decide_eq_true this)
 have hnn : ∀ x∈f,((nN x).toNat : Int) = nN x:=fun x hx=>by
  have:=hall x hx
  unfold letB at this
  simp only [Bool.and_eq_true,decide_eq_true_eq] at this
  omega
 refine ⟨f.map (fun x=>(nN x).toNat),by rw [List.length_map],fun c hc=>?_,?_⟩
 ·obtain ⟨x, hx, rfl⟩ := List.mem_map.1 hc
  rw [hnn x hx];exact hall x hx
 ·have e1 : bs (textOf (lrT f)) = lrT f := bs_textOf (fun y hy => by
   unfold lrT at hy
   obtain ⟨x,_,hx⟩:=List.mem_flatMap.1 hy
   exact bs_byte _ y hx)
  have e2 : (spelt (f.map (fun x=>(nN x).toNat))).map UInt8.toNat = lrT f:=by
   unfold spelt lrT bs
   rw [List.flatMap_map,List.map_flatMap]
   rw [List.flatMap_def,List.flatMap_def]
   refine congrArg List.flatten (List.map_congr_left (fun x hx=>?_))
   show ((Utf8.encode (((nN x).toNat : Nat) : Int)).data.toList).map UInt8.toNat = ((Utf8.encode (nN x)).data.toList).map UInt8.toNat
   rw [hnn x hx]
  have e3 : (textOf (lrT f)).data.toList.map UInt8.toNat = (spelt (f.map (fun x=>(nN x).toNat))).map UInt8.toNat:=e1.trans e2.symm
  exact List.map_inj_right (fun a b e=>UInt8.toNat_inj.1 e) |>.1 e3
theorem ok_word (os : List Ob) (nm : List ByteArray) (x : Int) : okD (wordD os nm x) = true:=by
 have hsym : ∀ y,symB nm y = true -> textB 6 (symT nm y) = true:=fun y h=>by
  unfold symB at h
  rw [Bool.and_eq_true,Bool.and_eq_true] at h
  exact h.2.2
 unfold wordD
 split
 ·rename_i k hk
  generalize (os.getD k default).kind = kd
  generalize (os.getD k default).f = f
  by_cases k1 : kd = 1
  ·subst k1
   rw [objD_1]
   split
   ·rename_i h;exact okD_mk (by simp) rfl rfl (by show countB 7 f.length = true;rw [countB_2 _ (.inl rfl)];exact decide_eq_true h)
   ·exact ok_void
  by_cases k2 : kd = 2
  ·subst k2
   rw [objD_2]
   split
   ·rename_i h;exact okD_mk (by simp) rfl rfl (by show countB 8 f.length = true;rw [countB_8];exact decide_eq_true h)
   ·exact ok_void
  by_cases k3 : kd = 3
  ·subst k3
   rw [objD_3]
   split
   ·rename_i h
    rw [Bool.and_eq_true,decide_eq_true_eq] at h
    obtain ⟨l,hl,hlet,hsp⟩:=lrT_spelt h.1
    refine okD_mk (by simp) rfl ?_ rfl
    show textB 5 (textOf (lrT f)) = true
    rw [textB_5,hsp,spelt_valid hlet,spelt_count hlet hsp,hl,decide_eq_true h.2];rfl
   ·exact ok_void
  by_cases k4 : kd = 4
  ·subst k4
   rw [objD_4]
   split
   ·rename_i h
    rw [Bool.and_eq_true,decide_eq_true_eq] at h
    refine okD_mk (by simp) rfl ?_ rfl
    show textB 9 (textOf (byT f)) = true
    rw [textB_9]
    have : (textOf (byT f)).size = f.length:=by
     show ((byT f).map UInt8.ofNat).toArray.size = f.length
     simp [byT]
    rw [this];exact decide_eq_true h.2
   ·exact ok_void
  by_cases k5 : kd = 5
  ·subst k5
   rw [objD_5]
   split
   ·rename_i h
    refine okD_mk (by simp) rfl ?_ rfl
    show textB 3 _ = true
    rw [textB_3]
    unfold bigB at h
    simp only [Bool.and_eq_true] at h
    obtain ⟨h1,h2,h3,h4,h5⟩:=h
    have hdg : Dg B32 (numMag f):=fun y hy=>by
     unfold numMag at hy
     obtain ⟨z,hz,rfl⟩:=List.mem_map.1 hy
     have:=List.all_eq_true.1 h2 z (List.mem_of_mem_drop hz)
     unfold limbB at this
     simp only [Bool.and_eq_true,decide_eq_true_eq] at this
     show (nN z).toNat < B32
     unfold B32;omega
    have hb:=small_good hdg h4
    refine printed_ok (fun hn=>?_) (by unfold Big at hb;omega)
    have h0 : numMag f ≠ []:=fun e=>by have:=goodB_neg h4 (by rw [e];rfl);rw [hn] at this;cases this
    exact (goodB_tr h4).ne_zero (B:=B32) (by decide) h0
   ·exact ok_void
  by_cases k12 : kd = 12
  ·subst k12
   rw [objD_12]
   split
   ·rename_i h
    unfold condB at h
    simp only [Bool.and_eq_true,decide_eq_true_eq] at h
    refine okD_mk (by simp) ?_ rfl ?_
    ·show numB 13 _ = true
     rw [numB_13,decide_eq_true h.2.2.1,decide_eq_true h.2.2.2];rfl
    ·show countB 13 (f.drop 1).length = true
     rw [countB_2 _ (.inr rfl),List.length_drop,h.1];rfl
   ·exact ok_void
  by_cases k14 : kd = 14
  ·subst k14
   rw [objD_14]
   split
   ·rename_i h
    refine okD_mk (by simp) rfl ?_ (countB_t _ (.inl rfl))
    show textB 15 (recT os nm (f.getD 0 0)) = true
    rw [Bool.and_eq_true] at h
    have h2:=h.2
    unfold recB at h2
    unfold recT
    split at h2
    ·rename_i k' hk'
     rw [Bool.and_eq_true,Bool.and_eq_true] at h2
     have:=h2.2.2
     unfold namB at this
     rw [Bool.and_eq_true,Bool.and_eq_true] at this
     exact this.2.2
    ·cases h2
   ·exact ok_void
  rw [objD_o k1 k2 k3 k4 k5 k12 k14]
  split
  ·exact ok_bare (by omega)
  split
  ·exact ok_bare (by omega)
  split
  ·exact okD_mk (by simp) rfl rfl (countB_t _ (.inr rfl))
  split
  ·exact okD_mk (by simp) rfl (by show textB 15 recordT = true;rw [textB_v _ (.inr rfl)];decide) rfl
  split
  ·exact okD_mk (by simp) rfl (by show textB 15 tableT = true;rw [textB_v _ (.inr rfl)];decide) rfl
  split
  ·exact ok_bare (by omega)
  ·exact ok_void
 ·unfold plainD
  split
  ·rename_i h
   refine okD_mk (by simp) rfl ?_ rfl
   show textB 3 _ = true
   rw [textB_3]
   exact printed_ok neg_nz (fix_lt (nK1_fix h))
  split
  ·split
   ·exact ok_bare (by omega)
   split
   ·rename_i h
    refine okD_mk (by simp) ?_ rfl rfl
    show numB 2 (nN x - 1) = true
    rw [numB_2]
    rcases h with h | h <;> rw [h] <;> rfl
   split
   ·exact ok_bare (by omega)
   ·exact ok_void
  split
  ·rename_i h
   refine okD_mk (by simp) ?_ rfl rfl
   show numB 4 (nN x) = true
   rw [numB_4];exact nK4_let h
  split
  ·rename_i h
   exact okD_mk (by simp) rfl (hsym x h) rfl
  split
  ·exact ok_bare (by omega)
  ·exact ok_void
set_option maxRecDepth 100000
def bigL (neg : Bool) (l : List Nat) : List Int:=wordR 1 (if neg then 1 else 0) 0 :: l.map (fun x=>wordR 1 (x : Nat) 0)
theorem bigL_take (neg : Bool) {l : List Nat} {q : Nat} (h : q < l.length) : bigL neg (l.take (q + 1)) = bigL neg (l.take q) ++ [wordR 1 (l.getD q 0 : Nat) 0]:=by
 unfold bigL
 rw [List.take_succ_eq_append_getElem h,List.map_append,List.cons_append,List.getD_eq_getElem?_getD,List.getElem?_eq_getElem h];rfl
theorem bigL_len (neg : Bool) (l : List Nat) : (bigL neg l).length = l.length + 1:=by simp [bigL]
theorem bigL_u (neg : Bool) (l : List Nat) : ∀ z∈bigL neg l,U64 z:=by
 intro z hz
 unfold bigL at hz
 rcases List.mem_cons.1 hz with rfl | hz
 ·exact wordR_rng _ _ _
 ·obtain ⟨x,_,rfl⟩:=List.mem_map.1 hz;exact wordR_rng _ _ _
theorem own_one {w W : World} {z : Int} (hb : Below w.heap.size w W) : (W.alloc (.cells #[.int .u64 z] 44)).ownsRow w.heap.size 44 1 (.slice (some ⟨W.heap.size,0,none⟩) 1 1) 1 (uz [z]) :=
 ⟨rfl,.inr ⟨W.heap.size,1,#[.int .u64 z],rfl,hb.size,blk_new _ _ _,Nat.le_refl _,by unfold maxLen;omega,rfl,rfl⟩⟩
set_option maxHeartbeats 4000000 in
theorem big_any (neg : Bool) (ao : Option Addr) (n cap : Nat) (l : List Nat) (w : World) (R : Row .u32 B32 w ao n cap l) (hn : n <= 1000) :
  Calls Tryz.prog 148 #[.agg #[.bool neg,.slice ao n cap]] w fun e w'=>∃ v,e = .returned v /\ w'.ownsRow w.heap.size 44 1 v (n + 1) (uz (bigL neg l)) /\ Below w.heap.size w w':=by
 have HR:=hid R
 have hln:=R.len
 have hf:=R.fits
 have hm:=R.most
 unfold maxLen at hm
 have b0:=Ba w (.cells #[.bool neg,.slice ao n cap] 104)
 have HB0:=hid b0
 have hx:=blk_new w #[.bool neg,.slice ao n cap] 104
 have HX:=hid hx
 have HC : Hid (∀ W,Below (w.alloc (.cells #[.bool neg,.slice ao n cap] 104)).heap.size (w.alloc (.cells #[.bool neg,.slice ao n cap] 104)) W -> W.cell? ⟨w.heap.size,0,none⟩ = some (.bool neg) /\ W.cell? ⟨w.heap.size,1,none⟩ = some (.slice ao n cap) /\ Below w.heap.size w W):=fun W b=>by
  have e:=(b.block w.heap.size (by rw [size_alloc];omega)).trans HX.out
  exact ⟨blk_cell e 0,blk_cell e 1,Bt HB0.out b⟩
 have CW : Hid (∀ x : Nat,x < 4294967296 -> ∀ W,Calls Tryz.prog 146 #[.int .i64 1,.int .i64 (x : Nat)] W fun e w'=>e = .returned (.int .u64 (wordR 1 (x : Nat) 0)) /\ Below W.heap.size W w'):=fun x hx W=>sword_any 1 x (by unfold Z64;omega) (by unfold Z64;omega) W
 have CW0:=hid (CW.out 0 (by omega))
 have CW1:=hid (CW.out 1 (by omega))
 obtain ⟨z0,hz0⟩ : ∃ z,z = wordR 1 ((0 : Nat) : Int) 0:=⟨_,rfl⟩
 obtain ⟨z1,hz1⟩ : ∃ z,z = wordR 1 ((1 : Nat) : Int) 0:=⟨_,rfl⟩
 rw [<- hz0] at CW0
 rw [<- hz1] at CW1
 have HBG : Hid (bigL neg [] = [if neg then z1 else z0]):=by
  unfold Hid bigL
  cases neg
  ·simp [hz0]
  ·simp [hz1]
 obtain ⟨W0,hW0⟩ : ∃ W,W = w.alloc (.cells #[.bool neg,.slice ao n cap] 104):=⟨_,rfl⟩
 have HW0:=hid hW0
 rw [<- hW0] at HC
 clear R b0 hx hz0 hz1
 have c0:=(HC.out W0 (Below.refl _ _)).1
 rw [hW0] at c0
 have fin : Hid (∀ (v : Value) (wr : World) (q : Nat),wr.ownsRow W0.heap.size 44 1 v (q + 1) (uz (bigL neg (l.take q))) -> Below W0.heap.size W0 wr -> q = n -> wr.ownsRow w.heap.size 44 1 v (n + 1) (uz (bigL neg l)) /\ Below w.heap.size w wr):=fun v wr q h1 h2 e=>by
  subst e
  rw [List.take_of_length_le (by omega)] at h1
  exact ⟨own_weak h1 (by rw [HW0.out,size_alloc];omega),(HC.out wr h2).2.2⟩
 have hone : Hid (∀ (W : World) (z : Int),Below W0.heap.size W0 W -> (W.alloc (.cells #[.int .u64 z] 44)).ownsRow W0.heap.size 44 1 (.slice (some ⟨W.heap.size,0,none⟩) 1 1) 1 (uz [z])):=fun W z hb=>own_one hb
 have HRW : Hid (∀ W,Below W0.heap.size W0 W -> Row .u32 B32 W ao n cap l):=fun W b=>HR.out.below (HC.out W b).2.2
 cases neg
 ·have eW : Hid (w.alloc (.cells #[.bool false, .slice ao n cap] 104) = W0) := HW0.out.symm
  go_enter Tryz.func148,Tryz.ntmps148
  go_wp2_with fail
  rw [eW.out]
  go_wp2_with (go_at_call 146;(refine (CW0.out W0).mono ?_);rintro e W1 ⟨rfl,b1⟩;have HB1:=hid b1;obtain ⟨e0,e1,_⟩:=HC.out (W1.alloc (.cells #[.int .u64 z0] 44)) (Bt b1 (Ba _ _));clear b1)
  have HBSTART : Hid (Below W0.heap.size W0 (W1.alloc (.cells #[.int .u64 z0] 44))):=Bt HB1.out (Ba _ _)
  have HSTART : Hid ((W1.alloc (.cells #[.int .u64 z0] 44)).ownsRow W0.heap.size 44 1 (.slice (some ⟨W1.heap.size,0,none⟩) 1 1) (0 + 1) (uz (bigL false (l.take 0)))):=by
   unfold Hid
   rw [List.take_zero,HBG.out]
   exact hone.out W1 z0 HB1.out
  clear e0 e1
  go_loopw [3,4] (fun v i wr=>∃ q : Nat,q <= n /\ i = .int .i64 q /\ Hid (wr.ownsRow W0.heap.size 44 1 v (q + 1) (uz (bigL false (l.take q))) /\ Below W0.heap.size W0 wr)) (fun _ i _=>n - (intOf i).toNat)
  case atStart=>exact ⟨0,Nat.zero_le _,rfl,HSTART.out,HBSTART.out⟩
  case round =>
   obtain ⟨q,hq,rfl,hI⟩:=hrel
   obtain ⟨_,d1,_⟩:=HC.out wr hI.out.2
   have HOQ:=hid hI.out.1
   have HBQ:=hid hI.out.2
   clear hI
   by_cases hlt : q < n
   ·obtain ⟨b, o, rfl, hlb, hcc⟩ := (HRW.out wr HBQ.out).rd.some (by omega)
    have hck:=hcc q (by omega)
    have hxb : l.getD q 0 < B32:=by rw [List.getD_eq_getElem?_getD,List.getElem?_eq_getElem (by omega)];exact HR.out.dg _ (List.getElem_mem _)
    have C1:=hid (CW.out (l.getD q 0) hxb wr)
    have HT:=hid (bigL_take false (l:=l) (q:=q) (by omega))
    obtain ⟨x,hx⟩ : ∃ x,x = l.getD q 0:=⟨_,rfl⟩
    rw [<- hx] at hck C1 HT hxb
    have hxb' : x < 4294967296:=hxb
    obtain ⟨zx,hzx⟩ : ∃ z,z = wordR 1 ((x : Nat) : Int) 0:=⟨_,rfl⟩
    have hzu : Hid (U64 zx):=by unfold Hid;rw [hzx];exact wordR_rng _ _ _
    rw [<- hzx] at C1 HT
    clear hcc hx hzx hxb
    go_wp2_with (first
     | (go_at_call 146;(with_reducible refine C1.out.mono ?_);rintro e W1 ⟨rfl,b1⟩;have HB1:=hid (b1.mono HBQ.out.size);have HBW1:=hid (HBQ.out.trans HB1.out);have HO1:=hid (uown_on (uown_on HOQ.out b1) (Ba W1 (.cells #[.int .u64 zx] 44)));have HU1:=hid (urow_one (blk_new W1 #[.int .u64 zx] 44) hzu.out);have HBA:=hid (HBW1.out.trans ((Ba W1 (.cells #[.int .u64 zx] 44)).mono HBW1.out.size));have HSA:=hid HBA.out.size;clear b1)
     | (at_builtin;refine appU rfl _ _ 23 rfl W0.heap.size 44 Tryz.underlying23 info_word _ (q + 1) (bigL false (l.take q)) rfl HO1.out (some ⟨W1.heap.size,0,none⟩) 1 1 [zx] rfl HU1.out (by omega) HSA.out ?_;intro v2 w2 ho2 hg2))
    have HE : Hid (Below W0.heap.size W0 w2):=HBA.out.grown hg2 HSA.out (fun b hb=>(HO1.out.lt b hb).1)
    refine ⟨⟨q + 1,by omega,by go_num,?_,HE.out⟩,by simp [intOf] <;> omega⟩
    rw [HT.out];exact ho2
   ·obtain rfl : q = n := by omega
    go_wp2_with fail
    go_ret
    obtain ⟨f1,f2⟩:=fin.out _ _ _ HOQ.out HBQ.out rfl
    exact ⟨_,rfl,f1,f2⟩
 ·have eW : Hid (w.alloc (.cells #[.bool true, .slice ao n cap] 104) = W0) := HW0.out.symm
  go_enter Tryz.func148,Tryz.ntmps148
  go_wp2_with fail
  rw [eW.out]
  refine (CW0.out W0).mono ?_
  rintro e W1 ⟨rfl,b1⟩
  have HB1:=hid b1
  have HBA:=hid (Bt b1 (Ba W1 (.cells #[.int .u64 z0] 44)))
  obtain ⟨e0,e1,_⟩:=HC.out (W1.alloc (.cells #[.int .u64 z0] 44)) HBA.out
  have C2:=hid (CW1.out (W1.alloc (.cells #[.int .u64 z0] 44)))
  have hx1:=blk_new W1 #[.int .u64 z0] 44
  have HX1:=hid hx1
  have hs1 : Hid (W1.heap.size < (W1.alloc (.cells #[.int .u64 z0] 44)).heap.size):=by unfold Hid;rw [size_alloc];omega
  clear b1 hx1
  go_wp2_with (go_at_call 146;(refine C2.out.mono ?_);rintro e W2 ⟨rfl,b2⟩;have hx2:=(b2.block W1.heap.size hs1.out).trans HX1.out;have HX2:=hid hx2;have q0 : W2.cell? ⟨W1.heap.size,0,none⟩ = some (.int .u64 z0):=blk_cell hx2 0;have f0:=blk_free hx2 0;have HB2:=hid (HBA.out.trans (b2.mono HBA.out.size));clear b2 hx2)
  have HBSTART : Hid (Below W0.heap.size W0 (W2.setCell ⟨W1.heap.size,0,none⟩ (.int .u64 z1))):=HB2.out.setCell (p:=⟨W1.heap.size,0,none⟩) HB1.out.size _
  have HSTART : Hid ((W2.setCell ⟨W1.heap.size,0,none⟩ (.int .u64 z1)).ownsRow W0.heap.size 44 1 (.slice (some ⟨W1.heap.size,0,none⟩) 1 1) (0 + 1) (uz (bigL true (l.take 0)))):=by
   unfold Hid
   rw [List.take_zero,HBG.out]
   refine ⟨rfl,.inr ⟨W1.heap.size,1,#[.int .u64 z1],rfl,HB1.out.size,?_,Nat.le_refl _,by unfold maxLen;omega,rfl,rfl⟩⟩
   rw [blk_set (i:=0) HX2.out];rfl
  clear q0 f0 e0 e1
  go_loopw [3,4] (fun v i wr=>∃ q : Nat,q <= n /\ i = .int .i64 q /\ Hid (wr.ownsRow W0.heap.size 44 1 v (q + 1) (uz (bigL true (l.take q))) /\ Below W0.heap.size W0 wr)) (fun _ i _=>n - (intOf i).toNat)
  case atStart=>exact ⟨0,Nat.zero_le _,rfl,HSTART.out,HBSTART.out⟩
  case round =>
   obtain ⟨q,hq,rfl,hI⟩:=hrel
   obtain ⟨_,d1,_⟩:=HC.out wr hI.out.2
   have HOQ:=hid hI.out.1
   have HBQ:=hid hI.out.2
   clear hI
   by_cases hlt : q < n
   ·obtain ⟨b, o, rfl, hlb, hcc⟩ := (HRW.out wr HBQ.out).rd.some (by omega)
    have hck:=hcc q (by omega)
    have hxb : l.getD q 0 < B32:=by rw [List.getD_eq_getElem?_getD,List.getElem?_eq_getElem (by omega)];exact HR.out.dg _ (List.getElem_mem _)
    have C1:=hid (CW.out (l.getD q 0) hxb wr)
    have HT:=hid (bigL_take true (l:=l) (q:=q) (by omega))
    obtain ⟨x,hx⟩ : ∃ x,x = l.getD q 0:=⟨_,rfl⟩
    rw [<- hx] at hck C1 HT hxb
    have hxb' : x < 4294967296:=hxb
    obtain ⟨zx,hzx⟩ : ∃ z,z = wordR 1 ((x : Nat) : Int) 0:=⟨_,rfl⟩
    have hzu : Hid (U64 zx):=by unfold Hid;rw [hzx];exact wordR_rng _ _ _
    rw [<- hzx] at C1 HT
    clear hcc hx hzx hxb
    go_wp2_with (first
     | (go_at_call 146;(with_reducible refine C1.out.mono ?_);rintro e W1 ⟨rfl,b1⟩;have HB1:=hid (b1.mono HBQ.out.size);have HBW1:=hid (HBQ.out.trans HB1.out);have HO1:=hid (uown_on (uown_on HOQ.out b1) (Ba W1 (.cells #[.int .u64 zx] 44)));have HU1:=hid (urow_one (blk_new W1 #[.int .u64 zx] 44) hzu.out);have HBA:=hid (HBW1.out.trans ((Ba W1 (.cells #[.int .u64 zx] 44)).mono HBW1.out.size));have HSA:=hid HBA.out.size;clear b1)
     | (at_builtin;refine appU rfl _ _ 23 rfl W0.heap.size 44 Tryz.underlying23 info_word _ (q + 1) (bigL true (l.take q)) rfl HO1.out (some ⟨W1.heap.size,0,none⟩) 1 1 [zx] rfl HU1.out (by omega) HSA.out ?_;intro v2 w2 ho2 hg2))
    have HE : Hid (Below W0.heap.size W0 w2):=HBA.out.grown hg2 HSA.out (fun b hb=>(HO1.out.lt b hb).1)
    refine ⟨⟨q + 1,by omega,by go_num,?_,HE.out⟩,by simp [intOf] <;> omega⟩
    rw [HT.out];exact ho2
   ·obtain rfl : q = n := by omega
    go_wp2_with fail
    go_ret
    obtain ⟨f1,f2⟩:=fin.out _ _ _ HOQ.out HBQ.out rfl
    exact ⟨_,rfl,f1,f2⟩
def sz (l : List ByteArray) : List Value:=l.map Value.string
theorem sz_append (l r : List ByteArray) : sz (l ++ r) = sz l ++ sz r:=by simp [sz]
theorem info_str : (Tryz.prog.info? 9).map (fun i=>(i.zero,i.size,i.bytes)) = some (some (.string ⟨#[]⟩),1,16):=by kernel_rfl
structure NM (B g : Nat) (vL : Value) (ls : List ByteArray) (w : World) : Prop where
 box : w.heap[g]? = some (.cells #[vL] 73 (0,0))
 own : w.ownsRow B 9 1 vL ls.length (sz ls)
 gl : vL.ownBlock ≠ some g
 Bg : B <= g
def NF (g : Nat) (vL : Value) : Nat -> Prop:=fun b=>b = g \/ vL.ownBlock = some b
section
variable {B g : Nat} {vL : Value} {ls : List ByteArray} {w w' : World}
theorem NM.ge (h : NM B g vL ls w) : ∀ b,NF g vL b -> B <= b /\ b < w.heap.size:=by
 rintro b (rfl | e)
 ·exact ⟨h.Bg,(Array.getElem?_eq_some_iff.1 h.box).1⟩
 ·exact h.own.lt b e
theorem NM.keep (h : NM B g vL ls w) (hb : ∀ b,NF g vL b -> w'.heap[b]? = w.heap[b]?) : NM B g vL ls w' :=
 ⟨(hb g (.inl rfl)).trans h.box,own_at h.own (fun b e=>hb b (.inr e)),h.gl,h.Bg⟩
theorem NM.on (h : NM B g vL ls w) (hb : Below w.heap.size w w') : NM B g vL ls w':=h.keep (fun b hf=>hb.block b (h.ge b hf).2)
theorem NM.get (h : NM B g vL ls w) {i : Nat} (hi : i < ls.length) : ∃ gl cap,vL = .slice (some ⟨gl,0,none⟩) ls.length cap /\ ls.length <= cap /\ cap <= 9223372036854775807 /\ w.cell? ⟨gl,i,none⟩ = some (.string (ls.getD i ByteArray.empty)):=by
 rcases h.own.2 with ⟨_,h1⟩ | ⟨gl,cap,cur,h1,h2,h3,h4,h5,h6,h7⟩
 ·omega
 ·unfold maxLen at h5
  refine ⟨gl,cap,h1,h4,h5,?_⟩
  have e : (sz ls)[i]? = some (.string (ls.getD i ByteArray.empty)):=by
   unfold sz
   rw [List.getElem?_map,List.getD_eq_getElem?_getD,List.getElem?_eq_getElem hi];rfl
  rw [blk_cell h3,<- e,<- h7,List.getElem?_take,if_pos (by omega)]
  simp
end
def idM : List ByteArray -> ByteArray -> Nat
 | [],_=>0
 | x :: l,s=>if x = s then 0 else idM l s + 1
def idL (ls : List ByteArray) (s : ByteArray) : List ByteArray:=if idM ls s < ls.length then ls else ls ++ [s]
theorem idM_found : ∀ {ls : List ByteArray} {s : ByteArray} {q : Nat},(∀ j,j < q -> ls.getD j ByteArray.empty ≠ s) -> q < ls.length -> ls.getD q ByteArray.empty = s -> idM ls s = q
 | [],_,_,_,h,_=>by simp at h
 | x :: l,s,0,_,_,h=>by
  have : x = s:=h
  unfold idM;rw [if_pos this]
 | x :: l,s,q + 1,h1,h2,h3=>by
  have h0 : x ≠ s:=h1 0 (by omega)
  have ih:=idM_found (ls:=l) (s:=s) (q:=q) (fun j hj=>h1 (j + 1) (by omega)) (by simpa using h2) h3
  unfold idM;rw [if_neg h0,ih]
theorem idM_none : ∀ {ls : List ByteArray} {s : ByteArray},(∀ j,j < ls.length -> ls.getD j ByteArray.empty ≠ s) -> idM ls s = ls.length
 | [],_,_=>rfl
 | x :: l,s,h=>by
  have h0 : x ≠ s:=h 0 (by simp)
  have ih:=idM_none (ls:=l) (s:=s) (fun j hj=>h (j + 1) (by simpa using hj))
  unfold idM;rw [if_neg h0,ih];rfl
theorem appS {P : Program} {w : World} {ops : Array Oper} {rest : List Oper} {o : Oper} {a : Act} {Q : Exit -> Act -> World -> Prop} (hgd : o.guard = none) (s x : Operand) (t : TypeId) (ho : o.op = .call { callee:=.builtin .append,args:=#[s,x],argTypes:=#[t,t] })
  (base : Nat) (e : TypeId) (ht : P.underlying t = some (.slice e)) (hi : (P.info? e).map (fun i=>(i.zero,i.size,i.bytes)) = some (some (.string ⟨#[]⟩),1,16))
  (v : Value) (n : Nat) (l : List ByteArray) (hs : a.eval s = v) (hown : w.ownsRow base e 1 v n (sz l))
  (g0 c : Nat) (d : ByteArray) (hx : a.eval x = .slice (some ⟨g0,0,none⟩) 1 c) (hd : w.cell? ⟨g0,0,none⟩ = some (.string d)) (hsm : n <= 10000000) (hbase : base <= w.heap.size)
  (h : ∀ g cap w',w'.ownsRow base e 1 (.slice (some ⟨g,0,none⟩) (n + 1) cap) (n + 1) (sz (l ++ [d])) -> w.grownBy w' v.ownBlock -> (v.ownBlock = some g \/ g = w.heap.size) -> g < w'.heap.size -> wpList P ops Q rest (a.put o.dst (.slice (some ⟨g,0,none⟩) (n + 1) cap)) w') :
  wpList P ops Q (o :: rest) a w:=by
 obtain ⟨i0,hi0,hz0,hz1,hz2⟩ : ∃ i0,P.info? e = some i0 /\ i0.zero = some (.string ⟨#[]⟩) /\ i0.size = 1 /\ i0.bytes = 16:=by
  cases h : P.info? e with
  | none=>rw [h] at hi;cases hi
  | some i=>rw [h] at hi;simp at hi;exact ⟨i,rfl,hi.1,hi.2.1,hi.2.2⟩
 refine wpList_append_lies w hgd s x t ho base e i0 (.string ⟨#[]⟩) 1 16 ht hi0 hz0 hz1 hz2 rfl (by decide) v n (sz l) hs hown ⟨g0,0,none⟩ 1 c [.string d] hx rfl ?_ ?_ (by decide) (by unfold maxLen;omega) (by omega) hbase w.heap.size rfl ?_
 ·intro j u hj
  match j,hj with
  | 0,hj=>simp at hj;subst hj;simpa [Addr.add] using hd
 ·intro u hu;simp at hu;subst hu;rfl
 ·intro g cap w' h1 h2 h3 h4
  refine h g cap w' ?_ h2 h3 h4
  rw [sz_append];exact h1
theorem NM.push {B g : Nat} {vL : Value} {ls : List ByteArray} {w w1 w' : World} {s : ByteArray} (h : NM B g vL ls w) (hb : Below w.heap.size w w1) {g1 cap n : Nat} (hn : ls.length = n) (ho : w'.ownsRow B 9 1 (.slice (some ⟨g1,0,none⟩) (n + 1) cap) (n + 1) (sz (ls ++ [s]))) (hg : w1.grownBy w' vL.ownBlock) (hl : vL.ownBlock = some g1 \/ g1 = w1.heap.size) :
  w'.cell? ⟨g,0,none⟩ = some vL /\ w'.frozen? ⟨g,0,none⟩ = false /\ NM B g (.slice (some ⟨g1,0,none⟩) (n + 1) cap) (ls ++ [s]) (w'.setCell ⟨g,0,none⟩ (.slice (some ⟨g1,0,none⟩) (n + 1) cap)) /\
   (∀ b,NF g (.slice (some ⟨g1,0,none⟩) (n + 1) cap) b -> NF g vL b \/ w.heap.size <= b) /\ Mod (NF g vL) w (w'.setCell ⟨g,0,none⟩ (.slice (some ⟨g1,0,none⟩) (n + 1) cap)):=by
 have hgl:=(h.ge g (.inl rfl)).2
 have hs:=hb.size
 have hbx : w'.heap[g]? = some (.cells #[vL] 73 (0,0)):=(hg.block g (by omega) (fun e=>h.gl e.symm)).trans ((hb.block g hgl).trans h.box)
 have hne : g1 ≠ g:=by
  rcases hl with e | e
  ·exact fun e'=>h.gl (by rw [e,e'])
  ·omega
 refine ⟨blk_cell hbx 0,blk_free hbx 0,⟨?_,?_,fun e=>?_,h.Bg⟩,?_,?_⟩
 ·rw [blk_set (i:=0) hbx];rfl
 ·rw [List.length_append, hn]
  exact own_at ho (fun b e=>Below.heap_setCell _ _ _ _ (by have e' : g1 = b:=Option.some.inj e;show b ≠ g;omega))
 ·exact hne (Option.some.inj e)
 ·rintro b (rfl | e)
  ·exact .inl (.inl rfl)
  ·have e' : g1 = b := Option.some.inj e
   rcases hl with h1 | h1
   ·exact .inl (.inr (by rw [h1,e']))
   ·exact .inr (by omega)
 ·refine ((Mod.of_below (NF g vL) hb).grown hg (fun k hk=>.inl (.inr hk))).setCell (p:=⟨g,0,none⟩) (.inl (.inl rfl)) _
def NPost (B g : Nat) (vL : Value) (w : World) (ls' : List ByteArray) (w' : World) : Prop :=
 ∃ vL',NM B g vL' ls' w' /\ (∀ b,NF g vL' b -> NF g vL b \/ w.heap.size <= b) /\ Mod (NF g vL) w w'
set_option maxHeartbeats 4000000 in
theorem nid_any {B g : Nat} {vL : Value} {ls : List ByteArray} (s : ByteArray) (w : World) (h : NM B g vL ls w) (hB : B <= w.heap.size) (hsm : ls.length <= 1000000) :
  Calls Tryz.prog 33 #[.pointer (some ⟨g,0,none⟩),.string s] w fun e w'=>e = .returned (.int .i64 (idM ls s : Nat)) /\ NPost B g vL w (idL ls s) w':=by
 have H:=hid h
 obtain ⟨aL,cL,hvL,hLf,hLm⟩:=slice_form h.own
 subst hvL
 have c0 : w.cell? ⟨g,0,none⟩ = some (.slice aL ls.length cL):=blk_cell h.box 0
 obtain ⟨n,hn⟩ : ∃ n,n = ls.length:=⟨_,rfl⟩
 rw [<- hn] at c0 hLf hsm H ⊢
 have HN:=hid hn
 clear h hn
 go_enter Tryz.func33,Tryz.ntmps33
 go_wp2_with fail
 go_loop [5] (fun i=>∃ q : Nat,q <= n /\ i = .int .i64 q /\ Hid (∀ j,j < q -> ls.getD j ByteArray.empty ≠ s)) (fun i=>n - (intOf i).toNat)
 case atStart=>exact ⟨0,Nat.zero_le _,rfl,fun j hj=>by omega⟩
 case round =>
  obtain ⟨q,hq,rfl,hI⟩:=hrel
  by_cases hlt : q < n
  ·obtain ⟨gl, cap, hv, _, _, hc⟩ := H.out.get (i := q) (by rw [<- HN.out]; exact hlt)
   injection hv with e1 _ e3
   subst e1 e3
   obtain ⟨x,hx⟩ : ∃ x,x = ls.getD q ByteArray.empty:=⟨_,rfl⟩
   rw [<- hx] at hc
   have HX:=hid hx
   have et:=str_eq x s
   clear hx
   by_cases hxs : x = s
   ·rw [decide_eq_true hxs] at et
    have hfound : Hid (idM ls s = q /\ idL ls s = ls):=by
     have hl:=HN.out
     have e:=idM_found (q:=q) hI.out (by omega) (by rw [<- HX.out];exact hxs)
     exact ⟨e,by unfold idL;rw [e,if_pos (by omega)]⟩
    clear hxs
    go_wp2_with fail
    go_ret
    rw [hfound.out.1,hfound.out.2]
    exact ⟨rfl,_,H.out,fun b hb=>.inl hb,Mod.refl _ _⟩
   ·rw [decide_eq_false hxs] at et
    have HNX : Hid (∀ j,j < q + 1 -> ls.getD j ByteArray.empty ≠ s):=fun j hj=>by
     by_cases e : j = q
     ·subst e;rw [<- HX.out];exact hxs
     ·exact hI.out j (by omega)
    clear hxs
    go_wp2_with fail
    exact ⟨⟨q + 1,by omega,by go_num,HNX.out⟩,by simp [intOf] <;> omega⟩
  ·obtain rfl : q = n := by omega
   have hres : Hid (idM ls s = q /\ idL ls s = ls ++ [s]):=by
    have e:=idM_none (ls:=ls) (s:=s) (fun j hj=>hI.out j (by rw [HN.out];exact hj))
    exact ⟨by rw [e,HN.out],by unfold idL;rw [e,if_neg (by omega)]⟩
   have HO1:=hid (own_at H.out.own (fun b e=>(Ba w (.cells #[.string s] 9)).block b (H.out.own.lt b e).2))
   rw [<- HN.out] at HO1
   have hc1 : (w.alloc (.cells #[.string s] 9)).cell? ⟨w.heap.size,0,none⟩ = some (.string s):=blk_cell (blk_new w #[.string s] 9) 0
   have HC1:=hid hc1
   have HSZ : Hid (B <= (w.alloc (.cells #[.string s] 9)).heap.size):=Nat.le_trans hB (Ba w _).size
   clear hI hc1
   go_wp2_with (at_builtin;refine appS rfl _ _ 71 rfl B 9 Tryz.underlying71 info_str _ q ls rfl HO1.out w.heap.size 1 s rfl HC1.out (by omega) HSZ.out ?_;intro g1 cap1 w3 ho3 hg3 hl3 hlt3;obtain ⟨d0,f0,h4,h5,h6⟩:=H.out.push (Ba w (.cells #[.string s] 9)) HN.out.symm ho3 hg3 hl3;have H4:=hid h4;have H5:=hid h5;have H6:=hid h6;have d2 : (w3.setCell ⟨g,0,none⟩ (.slice (some ⟨g1,0,none⟩) (q + 1) cap1)).cell? ⟨g,0,none⟩ = some (.slice (some ⟨g1,0,none⟩) (q + 1) cap1):=blk_cell h4.box 0;clear ho3 hg3 hl3 h4 h5 h6)
   go_ret
   rw [hres.out.1,hres.out.2]
   exact ⟨by simp,_,H4.out,H5.out,H6.out⟩
end Go.Proofs.YticimejfjjmikaaGreatDoor
