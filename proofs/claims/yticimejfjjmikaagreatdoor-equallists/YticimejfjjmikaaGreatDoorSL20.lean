import Derived.Test.YticimejfjjmikaaGreatDoorSG5
import Derived.Test.YticimejfjjmikaaGreatDoorX3
import Derived.Test.YticimejfjjmikaaGreatDoorSG1
set_option linter.unusedVariables false
set_option linter.unusedSimpArgs false
namespace Go.Proofs.YticimejfjjmikaaGreatDoor
open Go.RowKit
theorem node_parts {n : Nat} {d : Nd} (h : nodeB n d = true) : 1 <= d.kind /\ d.kind <= 17 /\ numB d.kind d.num = true /\ textB d.kind d.text = true /\ countB d.kind d.kids.length = true /\ placesB d.kids n = true:=by
 unfold nodeB at h
 simp only [Bool.and_eq_true,decide_eq_true_eq] at h
 obtain ⟨⟨⟨⟨⟨h1,h2⟩,h3⟩,h4⟩,h5⟩,h6⟩:=h
 exact ⟨h1,h2,h3,h4,h5,h6⟩
theorem no_text {t : ByteArray} (h : decide (t.size = 0) = true) : t = ByteArray.empty:=by
 rw [<- empty_dec] at h
 exact of_decide_eq_true h
theorem no_kids {k : Int} {l : List Int} (h : countB k l.length = true) (h1 : k ≠ 7) (h2 : k ≠ 13) (h3 : k ≠ 8) (h4 : k ≠ 15) (h5 : k ≠ 16) : l = []:=by
 rw [countB_o _ h1 h2 h3 h4 h5] at h
 exact List.length_eq_zero_iff.1 (of_decide_eq_true h)
theorem no_num {k n : Int} (h : numB k n = true) (h1 : k ≠ 2) (h2 : k ≠ 4) (h3 : k ≠ 13) : n = 0:=by
 rw [numB_o n h1 h2 h3] at h
 exact of_decide_eq_true h
theorem plainD_of_not {os : List Ob} {nm : List ByteArray} {x : Int} (h : nK x ≠ 2) : wordD os nm x = plainD nm x:=by
 unfold wordD;rw [find_not h]
theorem told_plain {n : Nat} {d : Nd} (hd : nodeB n d = true) (hc : CNd d) (hz : sizeN d = 0) (os : List Ob) {ls nm : List ByteArray} (hp : plainN ls d <+: nm) (hl : nm.length <= 1000000000) : wordD os nm (plainWd ls d) = d:=by
 obtain ⟨h1,h2,h3,h4,h5,h6⟩:=node_parts hd
 obtain ⟨k,m,t,ks⟩:=d
 simp only at h1 h2 h3 h4 h5 h6
 rcases size_zero hc hz with e | e | e | e | e | e | ⟨e,hp3,hf⟩ <;> simp only at e <;> subst e
 ·have hk := no_kids h5 (by decide) (by decide) (by decide) (by decide) (by decide)
  have hm:=no_num h3 (by decide) (by decide) (by decide)
  have ht:=no_text (t:=t) h4
  subst hk hm ht
  obtain ⟨s1,s2⟩:=say3 (n:=0) (by omega)
  show wordD os nm (wordR 3 0 0) = _
  rw [plainD_of_not (by rw [s1];decide)]
  unfold plainD
  rw [s1,s2];rfl
 ·have hk := no_kids h5 (by decide) (by decide) (by decide) (by decide) (by decide)
  have ht:=no_text (t:=t) h4
  subst hk ht
  rw [numB_2,Bool.or_eq_true,decide_eq_true_eq,decide_eq_true_eq] at h3
  obtain ⟨s1,s2⟩:=say3 (n:=1 + m) (by omega)
  show wordD os nm (wordR 3 (1 + m) 0) = _
  rw [plainD_of_not (by rw [s1];decide)]
  unfold plainD
  rw [s1,s2]
  rcases h3 with rfl | rfl <;> rfl
 ·have hk := no_kids h5 (by decide) (by decide) (by decide) (by decide) (by decide)
  have ht:=no_text (t:=t) h4
  subst hk ht
  rw [numB_4] at h3
  obtain ⟨s1,s2⟩:=say4 h3
  show wordD os nm (wordR 4 m 0) = _
  rw [plainD_of_not (by rw [s1];decide)]
  unfold plainD
  rw [s1,s2];rfl
 ·have hk := no_kids h5 (by decide) (by decide) (by decide) (by decide) (by decide)
  have hm:=no_num h3 (by decide) (by decide) (by decide)
  subst hk hm
  have hp' : idL ls t <+: nm:=hp
  obtain ⟨i1,i2⟩:=id_there ls t
  obtain ⟨j1,j2⟩:=pre_get hp' i1
  obtain ⟨s1,s2⟩:=say5 (n:=idM ls t) (by omega)
  show wordD os nm (wordR 5 ((idM ls t : Nat) : Int) 0) = _
  rw [plainD_of_not (by rw [s1];decide)]
  have hst : symT nm (wordR 5 ((idM ls t : Nat) : Int) 0) = t:=by
   unfold symT;rw [s2,Int.toNat_natCast,j2,i2]
  have hsb : symB nm (wordR 5 ((idM ls t : Nat) : Int) 0) = true:=by
   unfold symB;rw [hst,s1,s2,h4,decide_eq_true (show ((idM ls t : Nat) : Int) < (nm.length : Int) by omega)];rfl
  unfold plainD
  rw [hsb,hst,s1];rfl
 ·have hk := no_kids h5 (by decide) (by decide) (by decide) (by decide) (by decide)
  have hm:=no_num h3 (by decide) (by decide) (by decide)
  have ht:=no_text (t:=t) h4
  subst hk hm ht
  obtain ⟨s1,s2⟩:=say3 (n:=3) (by omega)
  show wordD os nm (wordR 3 3 0) = _
  rw [plainD_of_not (by rw [s1];decide)]
  unfold plainD
  rw [s1,s2];rfl
 ·have hk := no_kids h5 (by decide) (by decide) (by decide) (by decide) (by decide)
  have hm:=no_num h3 (by decide) (by decide) (by decide)
  have ht:=no_text (t:=t) h4
  subst hk hm ht
  obtain ⟨s1,s2⟩:=say3 (n:=4) (by omega)
  show wordD os nm (wordR 3 4 0) = _
  rw [plainD_of_not (by rw [s1];decide)]
  unfold plainD
  rw [s1,s2];rfl
 ·have hk := no_kids h5 (by decide) (by decide) (by decide) (by decide) (by decide)
  have hm:=no_num h3 (by decide) (by decide) (by decide)
  subst hk hm
  simp only at hp3 hf
  obtain ⟨s1,s2⟩:=say1 hf
  show wordD os nm (wordR 1 (txZ t) 0) = _
  rw [plainD_of_not (by rw [s1];decide)]
  unfold plainD
  rw [s1,s2,if_pos rfl,(printed_txZ hp3).1]
theorem fixB_nat {x : Nat} (h : x < 4294967296) : fixB (x : Int) = true:=by
 unfold fixB
 rw [Bool.and_eq_true,decide_eq_true_eq,decide_eq_true_eq];omega
theorem say1n {x : Nat} (h : x < 4294967296) : nK (wordR 1 (x : Int) 0) = 1 /\ nN (wordR 1 (x : Int) 0) = (x : Int):=say1 (fixB_nat h)
theorem nN_word {x : Nat} (h : x < 4294967296) : (nN (wordR 1 (x : Int) 0)).toNat = x:=by rw [(say1n h).2,Int.toNat_natCast]
theorem map_two {α β γ : Type} {f : α -> β} {g : β -> γ} {h : α -> γ} {l : List α} (e : ∀ x∈l,g (f x) = h x) : (l.map f).map g = l.map h:=by
 induction l with
 | nil=>rfl
 | cons x l ih =>
  rw [List.map_cons,List.map_cons,List.map_cons,e x List.mem_cons_self,ih (fun y hy=>e y (List.mem_cons_of_mem _ hy))]
theorem byT_bytes (t : ByteArray) : byT (bytesL t t.size) = bs t:=by
 have e1 : byT (bytesL t t.size) = (List.range t.size).map (byteAt t):=by
  unfold byT bytesL
  exact map_two (fun i _=>nN_word (Nat.lt_trans (byteAt_lt t i) (by omega)))
 rw [e1]
 apply List.ext_getElem
 ·rw [List.length_map,List.length_range,bs_length]
 ·intro i a b
  have hi : i < t.size:=by rw [bs_length] at b;exact b
  rw [List.getElem_map,List.getElem_range,<- byteAt_get hi]
  have e2:=bs_get t i hi
  rw [List.getD_eq_getElem?_getD,List.getElem?_eq_getElem b] at e2
  exact e2.symm
theorem bytes_all (t : ByteArray) : (bytesL t t.size).all byB = true:=by
 rw [List.all_eq_true]
 intro x hx
 unfold bytesL at hx
 obtain ⟨i,_,rfl⟩:=List.mem_map.1 hx
 have hb:=byteAt_lt t i
 have:=say1n (x:=byteAt t i) (Nat.lt_trans hb (by omega))
 unfold byB
 rw [this.1,this.2,Bool.and_eq_true,Bool.and_eq_true,decide_eq_true_eq,decide_eq_true_eq,decide_eq_true_eq]
 omega
theorem mag_words (l : List Nat) (h : ∀ x∈l,x < 4294967296) : (l.map (fun x : Nat=>wordR 1 (x : Int) 0)).map (fun y=>(nN y).toNat) = l:=by
 refine (map_two (h:=id) (fun x hx=>?_)).trans (List.map_id l)
 exact nN_word (h x hx)
theorem obj_big {n : Nat} {m : Int} {t : ByteArray} {ks : List Int} (h3 : numB 3 m = true) (h4 : textB 3 t = true) (h5 : countB 3 ks.length = true) (hf : fixB (txZ t) = false) (os : List Ob) (nm : List ByteArray) (ws : List Int) : objD os nm (fieldsK ⟨3,m,t,ks⟩) (fieldsL ⟨3,m,t,ks⟩ ws) = { (⟨3,m,t,ks⟩ : Nd) with kids:=ks.map (fun k=>ws.getD k.toNat 0) }:=by
 have hk:=no_kids h5 (by decide) (by decide) (by decide) (by decide) (by decide)
 have hm:=no_num h3 (by decide) (by decide) (by decide)
 subst hk hm
 rw [textB_3] at h4
 obtain ⟨m1,m2,m3,m4⟩:=mgF_ok (txZ t).natAbs (txZ t).natAbs (Nat.le_refl _)
 have hlen:=mg_len h4
 have hne : (txZ t).natAbs ≠ 0:=fun e=>by
  have e0 : txZ t = 0:=by omega
  rw [e0] at hf;cases hf
 have hl0 : mg (txZ t).natAbs ≠ []:=m4 hne
 show objD os nm 5 (bigL (decide (txZ t < 0)) (mg (txZ t).natAbs)) = _
 have hw : ∀ x : Nat,x < B32 -> nK (wordR 1 (x : Int) 0) = 1 /\ nN (wordR 1 (x : Int) 0) = (x : Int):=fun x hx=>say1n hx
 have hw0 : nK (wordR 1 (if decide (txZ t < 0) = true then 1 else 0) 0) = 1 /\ nN (wordR 1 (if decide (txZ t < 0) = true then 1 else 0) 0) = if decide (txZ t < 0) = true then 1 else 0:=by
  split
  ·exact hw 1 (by decide)
  ·exact hw 0 (by decide)
 have hdg : Dg B32 (mg (txZ t).natAbs):=m1
 have hmag : numMag (bigL (decide (txZ t < 0)) (mg (txZ t).natAbs)) = mg (txZ t).natAbs:=by
  unfold numMag bigL
  rw [List.drop_one,List.tail_cons]
  exact mag_words _ hdg
 have hneg : numNeg (bigL (decide (txZ t < 0)) (mg (txZ t).natAbs)) = decide (txZ t < 0):=by
  unfold numNeg bigL
  show decide (nN (wordR 1 (if decide (txZ t < 0) = true then 1 else 0) 0) = 1) = _
  rw [hw0.2]
  cases decide (txZ t < 0) <;> rfl
 have hsg : sgn (decide (txZ t < 0)) (txZ t).natAbs = txZ t:=by
  unfold sgn
  by_cases e : txZ t < 0
  ·rw [decide_eq_true e,if_pos rfl];omega
  ·rw [decide_eq_false e,if_neg (by decide)];omega
 have hgood : goodB (decide (txZ t < 0)) (mg (txZ t).natAbs) = true:=by
  unfold goodB
  have l1 : 0 < (mg (txZ t).natAbs).length:=List.length_pos_iff.2 hl0
  have l2 : (mg (txZ t).natAbs).getD ((mg (txZ t).natAbs).length - 1) 0 ≠ 0:=by
   rcases (show Tr (mg (txZ t).natAbs) from m2) with e | e
   ·exact absurd e hl0
   ·exact e
  rw [decide_eq_true l1,decide_eq_true hlen,decide_eq_true l2];simp
 have hbig : bigB (bigL (decide (txZ t < 0)) (mg (txZ t).natAbs)) = true:=by
  unfold bigB
  rw [hneg,hmag,hgood,show val B32 (mg (txZ t).natAbs) = (txZ t).natAbs from m3,hsg,hf]
  have a1 : 0 < (bigL (decide (txZ t < 0)) (mg (txZ t).natAbs)).length:=by rw [bigL_len];omega
  have a2 : (bigL (decide (txZ t < 0)) (mg (txZ t).natAbs)).all limbB = true:=by
   rw [List.all_eq_true]
   intro y hy
   unfold bigL at hy
   rcases List.mem_cons.1 hy with rfl | hy
   ·unfold limbB
    rw [hw0.1,hw0.2]
    cases decide (txZ t < 0) <;> rfl
   ·obtain ⟨x, hx, rfl⟩ := List.mem_map.1 hy
    have hxb:=hdg x hx
    unfold B32 at hxb
    unfold limbB
    rw [(hw x (hdg x hx)).1,(hw x (hdg x hx)).2,decide_eq_true (show (0 : Int) <= (x : Int) by omega),decide_eq_true (show (x : Int) < 4294967296 by omega)];rfl
  have a3 : nN ((bigL (decide (txZ t < 0)) (mg (txZ t).natAbs)).getD 0 0) <= 1:=by
   show nN (wordR 1 (if decide (txZ t < 0) = true then 1 else 0) 0) <= 1
   rw [hw0.2];split <;> omega
  rw [decide_eq_true a1,a2,decide_eq_true a3];rfl
 rw [objD_5,if_pos hbig,hneg,hmag,show val B32 (mg (txZ t).natAbs) = (txZ t).natAbs from m3,(printed_txZ h4).1];rfl
theorem obj_string {n : Nat} {m : Int} {t : ByteArray} {ks : List Int} (h3 : numB 5 m = true) (h4 : textB 5 t = true) (h5 : countB 5 ks.length = true) (os : List Ob) (nm : List ByteArray) (ws : List Int) : objD os nm (fieldsK ⟨5,m,t,ks⟩) (fieldsL ⟨5,m,t,ks⟩ ws) = { (⟨5,m,t,ks⟩ : Nd) with kids:=ks.map (fun k=>ws.getD k.toNat 0) }:=by
 have hk:=no_kids h5 (by decide) (by decide) (by decide) (by decide) (by decide)
 have hm:=no_num h3 (by decide) (by decide) (by decide)
 subst hk hm
 rw [textB_5,Bool.and_eq_true,decide_eq_true_eq] at h4
 obtain ⟨l,e1,e2,e3⟩:=told_spelt (s:=t) (f:=t.size) (p:=0) (by rw [List.drop_zero];exact h4.1) (by omega)
 rw [List.drop_zero] at e3
 have hcnt:=spelt_count e2 e3
 show objD os nm 3 ((ltrs t).map (fun c=>wordR 4 c 0)) = _
 have ef : (ltrs t).map (fun c=>wordR 4 c 0) = l.map (fun c : Nat=>wordR 4 (c : Int) 0):=by
  unfold ltrs
  rw [e1,List.map_map]
  simp only [Function.comp_def]
 have hall : (l.map (fun c : Nat=>wordR 4 (c : Int) 0)).all lrB = true:=by
  rw [List.all_eq_true]
  intro x hx
  obtain ⟨c,hc,rfl⟩:=List.mem_map.1 hx
  unfold lrB
  rw [(say4 (e2 c hc)).1];rfl
 have htx : lrT (l.map (fun c : Nat=>wordR 4 (c : Int) 0)) = bs t:=by
  unfold bs
  rw [e3]
  unfold lrT spelt bs
  rw [List.flatMap_map,List.map_flatMap,List.flatMap_def,List.flatMap_def]
  refine congrArg List.flatten (List.map_congr_left (fun c hc=>?_))
  rw [(say4 (e2 c hc)).2]
 rw [ef,objD_3,hall,List.length_map,decide_eq_true (show l.length <= 1024 by omega),htx,textOf_bs];rfl
theorem obj_pair {n : Nat} {m : Int} {t : ByteArray} {ks : List Int} (h3 : numB 7 m = true) (h4 : textB 7 t = true) (h5 : countB 7 ks.length = true) (os : List Ob) (nm : List ByteArray) (ws : List Int) : objD os nm (fieldsK ⟨7,m,t,ks⟩) (fieldsL ⟨7,m,t,ks⟩ ws) = { (⟨7,m,t,ks⟩ : Nd) with kids:=ks.map (fun k=>ws.getD k.toNat 0) }:=by
 have hm:=no_num h3 (by decide) (by decide) (by decide)
 have ht:=no_text (t:=t) h4
 subst hm ht
 rw [countB_2 _ (.inl rfl)] at h5
 have h5':=of_decide_eq_true h5
 show objD os nm 1 (ks.map (fun k=>ws.getD k.toNat 0)) = _
 rw [objD_1,List.length_map,if_pos h5']
theorem obj_vec {n : Nat} {m : Int} {t : ByteArray} {ks : List Int} (h3 : numB 8 m = true) (h4 : textB 8 t = true) (h5 : countB 8 ks.length = true) (os : List Ob) (nm : List ByteArray) (ws : List Int) : objD os nm (fieldsK ⟨8,m,t,ks⟩) (fieldsL ⟨8,m,t,ks⟩ ws) = { (⟨8,m,t,ks⟩ : Nd) with kids:=ks.map (fun k=>ws.getD k.toNat 0) }:=by
 have hm:=no_num h3 (by decide) (by decide) (by decide)
 have ht:=no_text (t:=t) h4
 subst hm ht
 rw [countB_8] at h5
 have h5':=of_decide_eq_true h5
 show objD os nm 2 (ks.map (fun k=>ws.getD k.toNat 0)) = _
 rw [objD_2,List.length_map,if_pos h5']
theorem obj_bytes {n : Nat} {m : Int} {t : ByteArray} {ks : List Int} (h3 : numB 9 m = true) (h4 : textB 9 t = true) (h5 : countB 9 ks.length = true) (os : List Ob) (nm : List ByteArray) (ws : List Int) : objD os nm (fieldsK ⟨9,m,t,ks⟩) (fieldsL ⟨9,m,t,ks⟩ ws) = { (⟨9,m,t,ks⟩ : Nd) with kids:=ks.map (fun k=>ws.getD k.toNat 0) }:=by
 have hk:=no_kids h5 (by decide) (by decide) (by decide) (by decide) (by decide)
 have hm:=no_num h3 (by decide) (by decide) (by decide)
 subst hk hm
 rw [textB_9] at h4
 have h4':=of_decide_eq_true h4
 show objD os nm 4 (bytesL t t.size) = _
 rw [objD_4,bytes_all,bytesL_len,decide_eq_true h4',byT_bytes,textOf_bs];rfl
theorem told_obj {n : Nat} {d : Nd} (hd : nodeB n d = true) (hz : 0 < sizeN d) (os : List Ob) (nm : List ByteArray) (ws : List Int) : objD os nm (fieldsK d) (fieldsL d ws) = { d with kids:=d.kids.map (fun k=>ws.getD k.toNat 0) }:=by
 obtain ⟨h1,h2,h3,h4,h5,h6⟩:=node_parts hd
 obtain ⟨k,m,t,ks⟩:=d
 simp only at h1 h2 h3 h4 h5 h6
 have hk : k = 3 /\ fixB (txZ t) = false \/ k = 5 \/ k = 7 \/ k = 8 \/ k = 9:=by
  unfold sizeN at hz
  simp only at hz
  split at hz
  ·omega
  split at hz
  ·rename_i e
   subst e
   left
   refine ⟨rfl,?_⟩
   cases hf : fixB (txZ t)
   ·rfl
   ·rw [hf] at hz;simp at hz
  split at hz
  ·rename_i e;exact .inr (.inl e)
  split at hz
  ·rename_i e; rcases e with e | e
   ·exact .inr (.inr (.inl e))
   ·exact .inr (.inr (.inr (.inl e)))
  split at hz
  ·rename_i e;exact .inr (.inr (.inr (.inr e)))
  ·omega
 rcases hk with ⟨e,hf⟩ | e | e | e | e <;> subst e
 ·exact obj_big (n:=n) h3 h4 h5 hf os nm ws
 ·exact obj_string (n:=n) h3 h4 h5 os nm ws
 ·exact obj_pair (n:=n) h3 h4 h5 os nm ws
 ·exact obj_vec (n:=n) h3 h4 h5 os nm ws
 ·exact obj_bytes (n:=n) h3 h4 h5 os nm ws
theorem word_nohd (k n : Int) (hk : k ≠ 8) : isHd (wordR k n 0) = false:=by
 unfold isHd
 refine decide_eq_false (fun e=>?_)
 cases h : rightB k n 0
 ·have e0 : wordR k n 0 = 0 := by unfold wordR; rw [h]; rfl
  rw [e0] at e
  revert e;decide
 ·have := (say h hk rfl).1
  unfold nK at this
  rw [this] at e
  exact hk e
theorem plainWd_nohd (ls : List ByteArray) (d : Nd) : isHd (plainWd ls d) = false:=by
 unfold plainWd
 repeat' split
 all_goals exact word_nohd _ _ (by decide)
theorem putS_nohd {nm : List ByteArray} {a : Nat} {cs : List Nd} : ∀ q,q <= cs.length -> ∀ z∈(putS nm a (cs.take q)).ws,isHd z = false
 | 0,_=>by simp [putS]
 | q + 1, h => by
  rw [putS_take (by omega)]
  have ih:=putS_nohd (nm:=nm) (a:=a) (cs:=cs) q (by omega)
  unfold stepP
  split
  ·intro z hz
   rcases List.mem_append.1 hz with hz | hz
   ·exact ih z hz
   ·obtain rfl:=List.mem_singleton.1 hz;exact plainWd_nohd _ _
  ·intro z hz
   rcases List.mem_append.1 hz with hz | hz
   ·exact ih z hz
   ·obtain rfl:=List.mem_singleton.1 hz;exact word_nohd _ _ (by decide)
theorem zero_nohd : isHd 0 = false:=by decide
theorem getD_nohd {ws : List Int} (h : ∀ z∈ws,isHd z = false) (i : Nat) : isHd (ws.getD i 0) = false:=by
 by_cases hi : i < ws.length
 ·exact h _ (getD_mem_w hi)
 ·rw [List.getD_eq_getElem?_getD,List.getElem?_eq_none (by omega)];exact zero_nohd
theorem fields_nohd (d : Nd) {ws : List Int} (h : ∀ z∈ws,isHd z = false) : ∀ z∈fieldsL d ws,isHd z = false:=by
 intro z hz
 unfold fieldsL at hz
 split at hz
 ·unfold bigL at hz
  rcases List.mem_cons.1 hz with rfl | hz
  ·exact word_nohd _ _ (by decide)
  ·obtain ⟨x,_,rfl⟩:=List.mem_map.1 hz;exact word_nohd _ _ (by decide)
 split at hz
 ·obtain ⟨x,_,rfl⟩:=List.mem_map.1 hz;exact word_nohd _ _ (by decide)
 split at hz
 ·unfold bytesL at hz
  obtain ⟨x,_,rfl⟩:=List.mem_map.1 hz;exact word_nohd _ _ (by decide)
 ·obtain ⟨x,_,rfl⟩:=List.mem_map.1 hz;exact getD_nohd h _
def objsOf (ws : List Int) (cs : List Nd) : List Ob:=(cs.filter (fun d=>decide (0 < sizeN d))).map (fun d=>⟨fieldsK d,fieldsL d ws⟩)
theorem fieldsK_rng (d : Nd) : 1 <= fieldsK d /\ fieldsK d <= 5:=by
 unfold fieldsK
 repeat' split
 all_goals omega
theorem objsOf_take {ws : List Int} {cs : List Nd} {q : Nat} (h : q < cs.length) : objsOf ws (cs.take (q + 1)) = objsOf ws (cs.take q) ++ (if 0 < sizeN (cs.getD q default) then [⟨fieldsK (cs.getD q default),fieldsL (cs.getD q default) ws⟩] else []):=by
 have e : cs.getD q default = cs[q]:=by rw [List.getD_eq_getElem?_getD,List.getElem?_eq_getElem h];rfl
 unfold objsOf
 rw [List.take_succ_eq_append_getElem h,List.filter_append,List.map_append,e]
 congr 1
 by_cases hz : 0 < sizeN cs[q]
 ·rw [if_pos hz,List.filter_cons_of_pos (by exact decide_eq_true hz)];rfl
 ·rw [if_neg hz,List.filter_cons_of_neg (by rw [decide_eq_false hz];decide)];rfl
theorem objsOf_used {ws : List Int} {cs : List Nd} (hs : cs.all (fun d=>decide (0 <= sizeN d)) = true) : ∀ q,q <= cs.length -> ((usedL (objsOf ws (cs.take q)) : Nat) : Int) = sumN (cs.take q)
 | 0,_=>by simp [objsOf,usedL,sumN]
 | q + 1, h => by
  have hq : q < cs.length:=by omega
  have ih:=objsOf_used (ws:=ws) hs q (by omega)
  have hm : cs.getD q default∈cs:=by rw [List.getD_eq_getElem?_getD,List.getElem?_eq_getElem hq];exact List.getElem_mem _
  have h0:=of_decide_eq_true (List.all_eq_true.1 hs _ hm)
  rw [objsOf_take hq,sumN_take hq,usedL_append]
  by_cases hz : 0 < sizeN (cs.getD q default)
  ·have := fieldsL_len (ws := ws) hz
   rw [if_pos hz]
   show ((usedL (objsOf ws (cs.take q)) + (1 + (fieldsL (cs.getD q default) ws).length + 0) : Nat) : Int) = _
   omega
  ·rw [if_neg hz]
   show ((usedL (objsOf ws (cs.take q)) + 0 : Nat) : Int) = _
   omega
theorem putO_is {N : Int} {os : List Ob} {ws : List Int} {cs : List Nd} (hw : ∀ z∈ws,isHd z = false) (hs : cs.all (fun d=>decide (0 <= sizeN d)) = true) (hr : ((usedL os : Nat) : Int) + sumN cs <= N) : ∀ q,q <= cs.length -> putO N ws os (cs.take q) = os ++ objsOf ws (cs.take q)
 | 0,_=>by simp [putO,objsOf]
 | q + 1, h => by
  have hq : q < cs.length:=by omega
  have ih:=putO_is (N:=N) (os:=os) hw hs hr q (by omega)
  have hu:=objsOf_used (ws:=ws) hs q (by omega)
  have hsum:=sumN_le hs (q + 1)
  rw [sumN_take hq] at hsum
  rw [putO_take hq,objsOf_take hq,ih]
  by_cases hz : 0 < sizeN (cs.getD q default)
  ·rw [if_pos hz, if_pos hz]
   have hk:=fieldsK_rng (cs.getD q default)
   have hl:=fieldsL_len (ws:=ws) hz
   have hany : (fieldsL (cs.getD q default) ws).any isHd = false:=by
    rw [List.any_eq_false]
    intro z hz'
    rw [fields_nohd _ hw z hz'];decide
   have hal : (allocM (os ++ objsOf ws (cs.take q)) N (fieldsK (cs.getD q default)) (fieldsL (cs.getD q default) ws)).2 = 0:=by
    unfold allocM
    rw [if_neg (by omega),hany,if_neg (by decide),if_neg (by rw [usedL_append];omega)]
   unfold allocO
   rw [if_pos hal,List.append_assoc]
  ·rw [if_neg hz,if_neg hz,List.append_nil]
section
variable {N : Int} {os : List Ob} {nm : List ByteArray} {cs : List Nd}
structure PutOk (N : Int) (os : List Ob) (nm : List ByteArray) (cs : List Nd) : Prop where
 nd : ∀ d∈cs,nodeB cs.length d = true
 cn : ∀ d∈cs,CNd d
 sz : cs.all (fun d=>decide (0 <= sizeN d)) = true
 room : ((usedL os : Nat) : Int) + sumN cs <= N
 most : N <= 4194304
 nms : nm.length + cs.length <= 1000000000
theorem PutOk.objs (h : PutOk N os nm cs) : putO N (putS nm (usedL os) cs).ws os cs = os ++ objsOf (putS nm (usedL os) cs).ws cs:=by
 have hw:=putS_nohd (nm:=nm) (a:=usedL os) (cs:=cs) cs.length (Nat.le_refl _)
 rw [List.take_length] at hw
 have:=putO_is (N:=N) (os:=os) hw h.sz h.room cs.length (Nat.le_refl _)
 rw [List.take_length] at this
 exact this
theorem PutOk.used (h : PutOk N os nm cs) : ((usedL (os ++ objsOf (putS nm (usedL os) cs).ws cs) : Nat) : Int) = (usedL os : Nat) + sumN cs /\ usedL (os ++ objsOf (putS nm (usedL os) cs).ws cs) <= 4194304:=by
 have:=objsOf_used (ws:=(putS nm (usedL os) cs).ws) h.sz cs.length (Nat.le_refl _)
 rw [List.take_length] at this
 have hr:=h.room
 have hm:=h.most
 rw [usedL_append]
 omega
theorem PutOk.place (h : PutOk N os nm cs) {i : Nat} (hi : i < cs.length) (hz : 0 < sizeN (cs.getD i default)) :
  ∃ k,findM (os ++ objsOf (putS nm (usedL os) cs).ws cs) ((putS nm (usedL os) cs).ws.getD i 0) = some k /\ (os ++ objsOf (putS nm (usedL os) cs).ws cs).getD k default = ⟨fieldsK (cs.getD i default),fieldsL (cs.getD i default) (putS nm (usedL os) cs).ws⟩ /\ (putS nm (usedL os) cs).ws.getD i 0 = wordR 2 ((putS nm (usedL os) (cs.take i)).at_ : Nat) 0 /\ ((putS nm (usedL os) (cs.take i)).at_ : Int) = (usedL os : Nat) + sumN (cs.take i) /\ k = (os ++ objsOf (putS nm (usedL os) cs).ws (cs.take i)).length:=by
 have hu:=h.used.2
 have hw:=putS_word (nm:=nm) (a:=usedL os) hi
 rw [if_neg (by omega)] at hw
 have hat:=putS_at (nm:=nm) (a:=usedL os) h.sz i (by omega)
 generalize hws : (putS nm (usedL os) cs).ws = ws at *
 have hou:=objsOf_used (ws:=ws) h.sz i (by omega)
 have hsplit : ∃ rest,objsOf ws cs = objsOf ws (cs.take i) ++ (⟨fieldsK (cs.getD i default),fieldsL (cs.getD i default) ws⟩ :: rest):=by
  have e1 : cs = cs.take (i + 1) ++ cs.drop (i + 1):=(List.take_append_drop _ _).symm
  refine ⟨objsOf ws (cs.drop (i + 1)),?_⟩
  conv=>lhs;rw [e1]
  have e2 : ∀ x y : List Nd,objsOf ws (x ++ y) = objsOf ws x ++ objsOf ws y:=fun x y=>by unfold objsOf;rw [List.filter_append,List.map_append]
  rw [e2,objsOf_take hi,if_pos hz,List.append_assoc];rfl
 obtain ⟨rest,hsp⟩:=hsplit
 have hk : (os ++ objsOf ws (cs.take i)).length < (os ++ objsOf ws cs).length:=by
  rw [hsp,<- List.append_assoc];simp
 have hatk : atO (os ++ objsOf ws cs) (os ++ objsOf ws (cs.take i)).length = (putS nm (usedL os) (cs.take i)).at_:=by
  unfold atO
  rw [hsp,<- List.append_assoc,List.take_left,usedL_append]
  omega
 refine ⟨(os ++ objsOf ws (cs.take i)).length,?_,?_,hw,hat,rfl⟩
 ·rw [hw, <- hatk]
  exact find_ptr hk (by omega)
 ·rw [hsp,<- List.append_assoc,List.getD_eq_getElem?_getD,List.getElem?_append_right (Nat.le_refl _),Nat.sub_self];rfl
theorem PutOk.told (h : PutOk N os nm cs) {i : Nat} (hi : i < cs.length) :
  wordD (os ++ objsOf (putS nm (usedL os) cs).ws cs) (putS nm (usedL os) cs).nm ((putS nm (usedL os) cs).ws.getD i 0) = { cs.getD i default with kids:=(cs.getD i default).kids.map (fun k=>(putS nm (usedL os) cs).ws.getD k.toNat 0) }:=by
 have hm : cs.getD i default∈cs:=by rw [List.getD_eq_getElem?_getD,List.getElem?_eq_getElem hi];exact List.getElem_mem _
 have hnd:=h.nd _ hm
 have hcn:=h.cn _ hm
 have h0:=of_decide_eq_true (List.all_eq_true.1 h.sz _ hm)
 by_cases hz : 0 < sizeN (cs.getD i default)
 ·obtain ⟨k, hf, hg, _⟩ := h.place hi hz
  unfold wordD
  rw [hf]
  simp only [hg]
  exact told_obj hnd hz _ _ _
 ·have hz0 : sizeN (cs.getD i default) = 0 := by omega
  have hw:=putS_word (nm:=nm) (a:=usedL os) hi
  rw [if_pos hz0] at hw
  rw [hw]
  have hpre : plainN (putS nm (usedL os) (cs.take i)).nm (cs.getD i default) <+: (putS nm (usedL os) cs).nm:=by
   have h1:=putS_pre (nm:=nm) (a:=usedL os) (cs:=cs) (q:=i + 1) (p:=cs.length) (by omega) (Nat.le_refl _)
   rw [List.take_length,putS_take hi] at h1
   unfold stepP at h1
   rw [if_pos hz0] at h1
   exact h1
  have hlen : (putS nm (usedL os) cs).nm.length <= 1000000000:=by
   have:=putS_nm (nm:=nm) (a:=usedL os) (cs:=cs) cs.length (Nat.le_refl _)
   rw [List.take_length] at this
   have:=h.nms
   omega
  rw [told_plain hnd hcn hz0 _ hpre hlen]
  obtain ⟨_,_,_,_,h5,_⟩:=node_parts hnd
  have hk : (cs.getD i default).kids = []:=by
   rcases size_zero hcn hz0 with e | e | e | e | e | e | ⟨e,_⟩ <;> rw [e] at h5 <;> exact no_kids h5 (by decide) (by decide) (by decide) (by decide) (by decide)
  exact nd_ext rfl rfl rfl (by rw [hk];rfl)
theorem plain_kind (ls : List ByteArray) (d : Nd) (hk : d.kind = 1 \/ d.kind = 2 \/ d.kind = 4 \/ d.kind = 6 \/ d.kind = 10 \/ d.kind = 11 \/ d.kind = 3) : nK (plainWd ls d) ≠ 2:=by
 have key : ∀ k n : Int,k ≠ 8 -> k ≠ 2 -> nK (wordR k n 0) ≠ 2:=fun k n h8 h2=>by
  cases h : rightB k n 0
  ·have e0 : wordR k n 0 = 0 := by unfold wordR; rw [h]; rfl
   rw [e0];exact nK_zero
  ·rw [(say h h8 rfl).1];exact h2
 unfold plainWd
 repeat' split
 all_goals exact key _ _ (by decide) (by decide)
end
def dd : List Int -> List Int
 | []=>[]
 | x :: l=>if x∈l then dd l else x :: dd l
theorem mem_dd : ∀ {l : List Int} {x : Int},x∈dd l ↔ x∈l
 | [],x=>Iff.rfl
 | y :: l, x => by
  unfold dd
  by_cases h : y∈l
  ·rw [if_pos h, mem_dd, List.mem_cons]
   constructor
   ·exact .inr
   ·rintro (rfl | e)
    ·exact h
    ·exact e
  ·rw [if_neg h,List.mem_cons,List.mem_cons,mem_dd]
theorem nodup_dd : ∀ (l : List Int),(dd l).Nodup
 | []=>List.nodup_nil
 | y :: l=>by
  unfold dd
  by_cases h : y∈l
  ·rw [if_pos h];exact nodup_dd l
  ·rw [if_neg h];exact List.nodup_cons.2 ⟨fun e=>h (mem_dd.1 e),nodup_dd l⟩
theorem ok_kids {d : Nd} (h : okD d = true) (ha : atomB d.kind = true) : d.kids = []:=by
 unfold okD at h
 rw [Bool.and_eq_true] at h
 have hk : d.kind = 1 \/ d.kind = 2 \/ d.kind = 3 \/ d.kind = 4 \/ d.kind = 6 \/ d.kind = 10 \/ d.kind = 11:=by
  unfold atomB at ha
  simp only [Bool.or_eq_true,decide_eq_true_eq] at ha
  omega
 refine no_kids h.2 ?_ ?_ ?_ ?_ ?_ <;> omega
section
variable {D Dc : Int -> Nd} {roots rootsc W Wc rs rc : List Int} {ns nc : List Nd} {ψ : Int -> Int} {f : Nat}
theorem told_two (T : Told D roots W ns rs) (Tc : Told Dc rootsc Wc nc rc) (hr : roots = rootsc.map ψ) (hok : ∀ x,okD (D x) = true)
  (hψ : ∀ x,Rch Dc rootsc x -> sameA (D (ψ x)) (Dc x) /\ (D (ψ x)).kids = (Dc x).kids.map ψ)
  (hi : ∀ x y,Rch Dc rootsc x -> Rch Dc rootsc y -> ψ x = ψ y -> x = y \/ atomB (Dc x).kind = true)
  (hb : ∀ x,Rch Dc rootsc x -> atomB (Dc x).kind = true -> (Dc x).kids = []) (F : Fine ns rs f) (Fc : Fine nc rc f) : canonG ns rs f = canonG nc rc f:=by
 have hin : ∀ i,i < ns.length -> W.getD i 0∈W:=fun i hi=>getD_mem_w (by rw [T.len];exact hi)
 have hc : ∀ x∈dd W,∀ y∈(D x).kids,y∈dd W:=fun x hx y hy=>by
  obtain ⟨i,hi,rfl⟩:=mem_getD_w (mem_dd.1 hx)
  rw [T.len] at hi
  rw [<- T.kids i hi] at hy
  obtain ⟨k,hk,rfl⟩:=List.mem_map.1 hy
  have:=T.kr i hi k hk
  exact mem_dd.2 (hin _ (by omega))
 have hrt : ∀ x∈roots,x∈dd W:=fun x hx=>by
  rw [<- T.rts] at hx
  obtain ⟨k,hk,rfl⟩:=List.mem_map.1 hx
  have:=T.rr k hk
  exact mem_dd.2 (hin _ (by omega))
 have TM:=told_mk (D:=D) (roots:=roots) (nodup_dd W) hc hrt
 have hg:=TM.good (fun x _=>hok x)
 have hn:=mk_nodup (D:=D) (nodup_dd W)
 have e1 : canonG (mkG D (dd W)) (roots.map (fun y=>(((dd W).idxOf y : Nat) : Int))) f = canonG ns rs f:=by
  have TM' : Told D (roots.map id) (dd W) (mkG D (dd W)) (roots.map (fun y=>(((dd W).idxOf y : Nat) : Int))):=by rw [List.map_id];exact TM
  exact told_canon T TM' hn (fun x _=>⟨⟨rfl,rfl,rfl⟩,(List.map_id _).symm⟩) (fun x y _ _ e=>.inl e) (fun x _ ha=>ok_kids (hok x) ha) F hg
 have e2 : canonG (mkG D (dd W)) (roots.map (fun y=>(((dd W).idxOf y : Nat) : Int))) f = canonG nc rc f:=by
  rw [hr] at TM hg ⊢
  exact told_canon Tc TM hn hψ hi hb Fc hg
 rw [<- e1,e2]
end
section
variable {N : Int} {os : List Ob} {nm : List ByteArray} {cs ns : List Nd} {crs rs W : List Int} {f : Nat}
abbrev pW (nm : List ByteArray) (os : List Ob) (cs : List Nd) (x : Int) : Int:=(putS nm (usedL os) cs).ws.getD x.toNat 0
abbrev pO (nm : List ByteArray) (os : List Ob) (cs : List Nd) : List Ob:=os ++ objsOf (putS nm (usedL os) cs).ws cs
abbrev pR (nm : List ByteArray) (os : List Ob) (cs : List Nd) (crs : List Int) : List Int:=crs.map (pW nm os cs)
theorem PutOk.mem (h : PutOk N os nm cs) {i : Nat} (hi : i < cs.length) : cs.getD i default∈cs /\ 0 <= sizeN (cs.getD i default):=by
 have hm : cs.getD i default∈cs:=by rw [List.getD_eq_getElem?_getD,List.getElem?_eq_getElem hi];exact List.getElem_mem _
 exact ⟨hm,of_decide_eq_true (List.all_eq_true.1 h.sz _ hm)⟩
theorem PutOk.says (h : PutOk N os nm cs) {i : Nat} (hi : i < cs.length) : nK ((putS nm (usedL os) cs).ws.getD i 0) = 2 ↔ 0 < sizeN (cs.getD i default):=by
 obtain ⟨hm,h0⟩:=h.mem hi
 constructor
 ·intro e
  refine Classical.byContradiction (fun hz=>?_)
  have hz0 : sizeN (cs.getD i default) = 0:=by omega
  have hw:=putS_word (nm:=nm) (a:=usedL os) hi
  rw [if_pos hz0] at hw
  rw [hw] at e
  refine plain_kind _ _ ?_ e
  rcases size_zero (h.cn _ hm) hz0 with e | e | e | e | e | e | ⟨e,_⟩ <;> omega
 ·intro hz
  obtain ⟨k,hf,_⟩:=h.place hi hz
  exact find_place hf
end
set_option maxRecDepth 100000
def bareV (d : Nd) : Value:=.agg #[.int .i64 d.kind,.int .i64 d.num,.string d.text,.slice none 0 0]
def NZ (g : Nat) (w : World) : Prop:=w.heap[g]? = some (.cells #[.int .i64 0,.int .i64 0,.string ⟨#[]⟩,.slice none 0 0] 54 (0,0))
theorem NZ.c {g : Nat} {w : World} (h : NZ g w) : w.cell? ⟨g,0,none⟩ = some (.int .i64 0) /\ w.cell? ⟨g,1,none⟩ = some (.int .i64 0) /\ w.cell? ⟨g,2,none⟩ = some (.string ⟨#[]⟩) /\ w.cell? ⟨g,3,none⟩ = some (.slice none 0 0) /\ w.frozen? ⟨g,0,none⟩ = false /\ w.frozen? ⟨g,1,none⟩ = false /\ w.frozen? ⟨g,2,none⟩ = false /\ w.frozen? ⟨g,3,none⟩ = false :=
 ⟨blk_cell h 0,blk_cell h 1,blk_cell h 2,blk_cell h 3,blk_free h 0,blk_free h 1,blk_free h 2,blk_free h 3⟩
theorem NZ.new (w : World) : NZ w.heap.size (w.alloc (.cells #[.int .i64 0,.int .i64 0,.string ⟨#[]⟩,.slice none 0 0] 54)):=blk_new _ _ _
theorem NZ.on {g : Nat} {w w' : World} (h : NZ g w) (hb : Below w.heap.size w w') : NZ g w':=(hb.block g (Array.getElem?_eq_some_iff.1 h).1).trans h
theorem void_any (w : World) : Calls Tryz.prog 127 #[] w fun e w'=>e = .returned (bareV voidN) /\ Below w.heap.size w w':=by
 have hst:=blk_new w #[.int .i64 11,.int .i64 0,.string ⟨#[]⟩,.slice none 0 0] 54
 have t0:=blk_cell hst 0
 have t1:=blk_cell hst 1
 have t2:=blk_cell hst 2
 have t3:=blk_cell hst 3
 have HB:=hid (Ba w (.cells #[.int .i64 11,.int .i64 0,.string ⟨#[]⟩,.slice none 0 0] 54))
 clear hst
 go_enter Tryz.func127,Tryz.ntmps127
 go_wp2_with fail
 (try simp only [Exit.inBlock,Exit.then]);refine bodyPost_ret (by simp [results,Tryz.results127,go_sem,t0,t1,t2,t3];rfl) rfl ?_
 exact ⟨rfl,HB.out⟩
def uptoB (most x : Int) : Bool:=decide (nK x = 1) && (decide (0 <= nN x) && decide (nN x <= most))
theorem upto_any (most x : Int) (hx : U64 x) (w : World) : Calls Tryz.prog 157 #[.int .i64 most,.int .u64 x] w fun e w'=>∃ n,e = .returned (.tuple #[.int .i64 n,.bool (uptoB most x)]) /\ (uptoB most x = true -> n = nN x) /\ w' = w:=by
 have C:=hid (int_any x hx w)
 have e1 : isR 1 x = decide (nK x = 1):=rfl
 have e2 : hasR 1 x = if nK x = 1 then nN x else 0:=rfl
 have HU : Hid (uptoB most x = (decide (nK x = 1) && (decide (0 <= nN x) && decide (nN x <= most)))):=rfl
 rw [e1,e2] at C
 obtain ⟨k,hk⟩ : ∃ k,k = nK x:=⟨_,rfl⟩
 obtain ⟨n,hn⟩ : ∃ k,k = nN x:=⟨_,rfl⟩
 rw [<- hk,<- hn] at C HU
 rw [<- hn]
 clear hk hn hx e1 e2
 by_cases h1 : k = 1
 ·subst h1
  rw [if_pos rfl] at C
  by_cases h2 : 0 <= n
  ·have d2 : decide (0 <= n) = true := decide_eq_true h2
   by_cases h3 : n <= most
   ·have d3 : decide (n <= most) = true := decide_eq_true h3
    rw [d2,d3] at HU
    go_enter Tryz.func157,Tryz.ntmps157
    go_wp2_with (go_at_call 128;(with_reducible refine C.out.mono ?_);rintro e W1 ⟨rfl,hw1⟩;rw [hw1];clear hw1)
    go_ret2
    exact ⟨n,by rw [HU.out];rfl,fun _=>rfl,rfl⟩
   ·have d3 : decide (n <= most) = false := decide_eq_false h3
    rw [d2,d3] at HU
    go_enter Tryz.func157,Tryz.ntmps157
    go_wp2_with (go_at_call 128;(with_reducible refine C.out.mono ?_);rintro e W1 ⟨rfl,hw1⟩;rw [hw1];clear hw1)
    go_ret2
    exact ⟨n,by rw [HU.out];rfl,fun _=>rfl,rfl⟩
  ·have d2 : decide (0 <= n) = false := decide_eq_false h2
   rw [d2] at HU
   go_enter Tryz.func157,Tryz.ntmps157
   go_wp2_with (go_at_call 128;(with_reducible refine C.out.mono ?_);rintro e W1 ⟨rfl,hw1⟩;rw [hw1];clear hw1)
   go_ret2
   exact ⟨n,by rw [HU.out];rfl,fun _=>rfl,rfl⟩
 ·rw [if_neg h1, decide_eq_false h1] at C
  rw [decide_eq_false h1,Bool.false_and] at HU
  clear h1
  go_enter Tryz.func157,Tryz.ntmps157
  go_wp2_with (go_at_call 128;(with_reducible refine C.out.mono ?_);rintro e W1 ⟨rfl,hw1⟩;rw [hw1];clear hw1)
  go_ret2
  exact ⟨0,by rw [HU.out];rfl,fun h=>(by rw [HU.out] at h;cases h),rfl⟩
theorem unil (w : World) : URow w none 0 0 []:=⟨rfl,Nat.le_refl _,Nat.zero_le _,fun _=>rfl,fun z h=>(by cases h),.inl rfl⟩
end Go.Proofs.YticimejfjjmikaaGreatDoor
