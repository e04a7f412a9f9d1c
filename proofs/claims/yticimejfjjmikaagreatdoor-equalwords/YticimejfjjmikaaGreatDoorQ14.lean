import Derived.Test.YticimejfjjmikaaGreatDoorSG3
import Derived.Test.YticimejfjjmikaaGreatDoorQ10
import Derived.Test.YticimejfjjmikaaGreatDoorSL31
import Derived.Test.YticimejfjjmikaaGreatDoorQ9
import Derived.Test.YticimejfjjmikaaGreatDoorG21
import Derived.Test.YticimejfjjmikaaGreatDoorQ1
import Derived.Test.YticimejfjjmikaaGreatDoorV4
import Derived.Test.YticimejfjjmikaaGreatDoorST5
import Derived.Test.YticimejfjjmikaaGreatDoorJ1
import Derived.Test.YticimejfjjmikaaGreatDoorU0
import Derived.Test.YticimejfjjmikaaGreatDoorST11
import Derived.Test.YticimejfjjmikaaGreatDoorSG6
import Derived.Deep.RegionHeld3
set_option linter.unusedVariables false
set_option linter.unusedSimpArgs false
set_option maxRecDepth 100000
namespace Go.Proofs.YticimejfjjmikaaGreatDoor
open Go.RowKit
def TxOk (os : List Ob) : Prop:=∀ x∈os,x.kind = 3 \/ x.kind = 4 -> ∀ z∈x.f,nK z ≠ 2
theorem eqv_plain {os : List Ob} {x y : Int} (hx : nK x ≠ 2) (h : Alike (hpO os) x y) : x = y:=by
 rcases alike_bis x y h with (h | ⟨f,h1,_⟩) | ⟨k,f,g,h1,_⟩
 ·exact h
 ·rw [hp_none (find_not hx)] at h1;cases h1
 ·rw [hp_none (find_not hx)] at h1;cases h1
theorem list_ext_getD {f g : List Int} (hl : f.length = g.length) (h : ∀ j,j < f.length -> f.getD j 0 = g.getD j 0) : f = g:=by
 apply List.ext_getElem hl
 intro i h1 h2
 have:=h i h1
 rw [List.getD_eq_getElem?_getD,List.getElem?_eq_getElem h1,List.getD_eq_getElem?_getD,List.getElem?_eq_getElem h2] at this
 exact this
theorem alike_text {os : List Ob} (hT : TxOk os) {x y : Int} {i k : Nat} (hi : findM os x = some i) (hk : findM os y = some k) (h3 : (os.getD i default).kind = 3 \/ (os.getD i default).kind = 4) (hne : x ≠ y) (h : Alike (hpO os) x y) : (os.getD i default).f = (os.getD k default).f:=by
 rcases alike_bis x y h with (h | ⟨f,h1,_⟩) | ⟨kd,f,g,h1,h2,_,h4,h5⟩
 ·exact absurd h hne
 ·rw [hp_some hi] at h1
  injection h1 with h1
  injection h1 with h1 _
  omega
 ·rw [hp_some hi] at h1
  rw [hp_some hk] at h2
  injection h1 with h1
  injection h1 with _ h1
  injection h2 with h2
  injection h2 with _ h2
  subst h1 h2
  refine list_ext_getD h4 (fun j hj=>eqv_plain (hT _ (getD_in_os (findM_lt hi).1) h3 _ (getD_in_f hj)) (h5 j hj))
theorem alike_fields {os : List Ob} {x y : Int} {i k : Nat} (hi : findM os x = some i) (hk : findM os y = some k) (h3 : (os.getD i default).kind <= 4) (h : Alike (hpO os) x y) : ∀ j,j < (os.getD i default).f.length -> Alike (hpO os) ((os.getD i default).f.getD j 0) ((os.getD k default).f.getD j 0):=by
 rcases alike_bis x y h with (h | ⟨f,h1,_⟩) | ⟨kd,f,g,h1,h2,_,h4,h5⟩
 ·subst h
  rw [hi] at hk
  injection hk with hk
  subst hk
  exact fun j _=>Alike.refl _
 ·rw [hp_some hi] at h1
  injection h1 with h1
  injection h1 with h1 _
  omega
 ·rw [hp_some hi] at h1
  rw [hp_some hk] at h2
  injection h1 with h1
  injection h1 with _ h1
  injection h2 with h2
  injection h2 with _ h2
  subst h1 h2
  exact h5
theorem alike_big {os : List Ob} {x y : Int} {i k : Nat} (hi : findM os x = some i) (hk : findM os y = some k) (h3 : (os.getD i default).kind = 5) (hne : x ≠ y) (h : Alike (hpO os) x y) : bigEq os i k = true:=by
 rcases alike_bis x y h with (h | ⟨f,h1,h2,h4⟩) | ⟨kd,f,g,h1,h2,_,_,_⟩
 ·exact absurd h hne
 ·rw [hp_some hi] at h1
  rw [hp_some hk] at h2
  injection h1 with h1
  injection h1 with a1 a2
  injection h2 with h2
  injection h2 with b1 b2
  unfold bigEq
  rw [a1,b1,a2,b2,h4]
  simp
 ·rw [hp_some hi] at h1
  injection h1 with h1
  injection h1 with h1 _
  omega
def MfEnd (os : List Ob) (a0 b0 : Int) (M b : Nat) (w0 : World) (v : Value) (S : US) (x y : Int) (e : Ending) (w' : World) : Prop :=
 ∃ bb,e = .returned (.bool bb) /\ ∃ S',MZ os a0 b0 (fun r=>r = (x,y)) M b w0 v S' w' /\ (∀ u z,S.root u = S.root z -> S'.root u = S'.root z) /\ (bb = true -> Done (hpO os) S'.root x y) /\ (bb = false -> ¬ Alike (hpO os) x y)
section
variable {B : Nat} {v : Value} {N : Int} {os : List Ob} {F : Nat -> Prop} {a0 b0 : Int} {M : Nat} {w0 : World} {S : US}
set_option maxHeartbeats 8000000 in
theorem emf_any (x y : Int) (w : World) (h0 : HE B v N os F w0) (hT : TabsS w0) (hX : TxOk os) (h : MZ os a0 b0 (fun r=>r = (x,y)) M w0.heap.size w0 v S w) (hm : May (hpO os) x y) (hx : U64 x) (hy : U64 y) (hne : x ≠ y) (hal : Alike (hpO os) a0 b0 -> Alike (hpO os) x y) (hMM : M <= 10000000) :
  Calls Tryz.prog 57 #[.pointer (some ⟨w0.heap.size + 2,0,none⟩),.agg #[.int .u64 x,.int .u64 y]] w (MfEnd os a0 b0 M w0.heap.size w0 v S x y):=by
 obtain ⟨kd,f,g,hf,hg,hkd⟩:=hm
 obtain ⟨i,hi,i1,i2⟩:=hp_inv hf
 obtain ⟨k,hk,k1,k2⟩:=hp_inv hg
 have hst : stM os x y = kd:=by unfold stM kindM;rw [hi,hk];simp only;rw [i1,k1,if_pos rfl]
 have hz:=h.on (Ba w (.cells #[.int .u64 x,.int .u64 y] 115))
 have hbx:=blk_new w #[.int .u64 x,.int .u64 y] 115
 obtain ⟨W1,hW1⟩ : ∃ W,W = w.alloc (.cells #[.int .u64 x,.int .u64 y] 115):=⟨_,rfl⟩
 rw [<- hW1] at hz hbx
 have hbw : Below w0.heap.size w0 W1.drew:=hz.mt.bel.trans ((Bd W1 1).mono (by have:=hz.mt.lt;omega))
 have HZ : Hid (MZ os a0 b0 (fun r=>r = (x,y)) M w0.heap.size w0 v S W1.drew):=hz.on (Bd W1 1)
 have CT : Hid (∀ W,Below w0.heap.size w0 W -> _):=fun W hW=>etype_any x y hx hy W (h0.on hW)
 have CI : Hid (∀ W,Below w0.heap.size w0 W -> _):=fun W hW=>esamei_any x y hx hy W (h0.on hW) (hT.below hW)
 have CF : Hid (∀ W,Below w0.heap.size w0 W -> _):=fun W hW=>esamef_any x y hx hy W (h0.on hW) hi hk
 have CA : Hid (∀ W S',(os.getD i default).kind <= 4 -> f.length = g.length -> MZ os a0 b0 (fun r=>r = (x,y)) M w0.heap.size w0 v S' W -> _):=fun W S' h4 hl hz'=>emeets_any x y hx hy W h0 hz' hi hk (by rw [i2,k2];exact hl) (alike_fields hi hk h4) hal hMM
 rw [hst] at CT
 have HSI : Hid (sameIB os x y = bigEq os i k):=by unfold Hid sameIB;rw [hi,hk]
 rw [HSI.out] at CI
 have p0 : W1.cell? ⟨w.heap.size,0,none⟩ = some (.int .u64 x):=blk_cell hbx 0
 have p1 : W1.cell? ⟨w.heap.size,1,none⟩ = some (.int .u64 y):=blk_cell hbx 1
 have c0 : ∀ W,Below W1.drew.heap.size W1.drew W -> W.cell? ⟨w0.heap.size + 2,0,none⟩ = some v:=fun W hb=>blk_cell (HZ.out.on hb).mt.box 0
 have HC0:=hid c0
 have c00:=c0 _ (Below.refl _ _)
 have HBW:=hid hbw
 have FINA : Hid (∀ W e,(1 <= kd /\ kd <= 4) -> f.length = g.length -> AfEnd os a0 b0 (fun r=>r = (x,y)) M w0.heap.size w0 v S (os.getD i default).f (os.getD k default).f x y e W -> MfEnd os a0 b0 M w0.heap.size w0 v S x y e W):=fun W e h4 hl=>by
  rintro ⟨bb,rfl,S',q1,q2,q3,q4⟩
  exact ⟨bb,rfl,S',q1,q2,fun e=>⟨kd,f,g,hf,hg,.inr ⟨h4,hl,fun j hj=>by have:=q3 e j (by rw [i2];exact hj);rw [i2,k2] at this;exact this⟩⟩,q4⟩
 have FINI : Hid (kd = 5 -> ∀ W,Below W1.drew.heap.size W1.drew W -> MfEnd os a0 b0 M w0.heap.size w0 v S x y (.returned (.bool (bigEq os i k))) W):=fun h5 W hb=>by
  refine ⟨_,rfl,S,HZ.out.on hb,fun _ _ e=>e,fun e=>?_,fun e ha=>?_⟩
  ·unfold bigEq at e
   simp only [Bool.and_eq_true,decide_eq_true_eq] at e
   refine ⟨kd,f,g,hf,hg,.inl ⟨h5,by rw [<- i2,<- k2];exact e.2.2.1,by rw [<- i2];exact e.2.2.2⟩⟩
  ·have := alike_big hi hk (by rw [i1]; exact h5) hne ha
   rw [e] at this;cases this
 have FINF : Hid (kd = 3 \/ kd = 4 -> ∀ W,Below W1.drew.heap.size W1.drew W -> MfEnd os a0 b0 M w0.heap.size w0 v S x y (.returned (.bool (decide ((os.getD i default).f = (os.getD k default).f)))) W):=fun h34 W hb=>by
  refine ⟨_,rfl,S,HZ.out.on hb,fun _ _ e=>e,fun e=>?_,fun e ha=>?_⟩
  ·have e := of_decide_eq_true e
   rw [i2,k2] at e
   subst e
   exact ⟨kd,f,f,hf,hg,.inr ⟨by omega,rfl,fun j _=>rfl⟩⟩
  ·exact of_decide_eq_false e (alike_text hX hi hk (by rw [i1];exact h34) hne ha)
 obtain ⟨gh,rfl⟩:=h0.ph.ptr
 obtain ⟨bi,hbi⟩ : ∃ b,b = bigEq os i k:=⟨_,rfl⟩
 obtain ⟨bf,hbf⟩ : ∃ b,b = decide ((os.getD i default).f = (os.getD k default).f):=⟨_,rfl⟩
 rw [<- hbi] at CI FINI
 rw [<- hbf] at CF FINF
 obtain ⟨bA,hbA⟩ : ∃ b,b = w0.heap.size:=⟨_,rfl⟩
 rw [<- hbA] at HZ CT CI CF CA HBW FINA FINI FINF HC0 c00 ⊢
 rw [hW1] at p0 p1 c00 HZ HBW FINI FINF HC0
 have hA4 : Hid ((os.getD i default).kind <= 4 ↔ kd <= 4):=by unfold Hid;rw [i1]
 clear h h0 hT hX hf hg hx hy hne hal hi i1 i2 hk k1 k2 hst hz hbx hbw HSI c0 hbi hbf hbA
 go_enter Tryz.func57,Tryz.ntmps57
 go_wp2_with fail
 go_region
 obtain ⟨W2,hW2⟩ : ∃ W,W = (w.alloc (.cells #[.int .u64 x,.int .u64 y] 115)).drew:=⟨_,rfl⟩
 rw [<- hW2] at HZ HBW FINI FINF HC0 ⊢
 have c2:=HC0.out W2 (Below.refl _ _)
 have HBX : Hid (∀ W,Below W2.heap.size W2 W -> Below bA w0 W):=fun W hb=>HBW.out.trans (hb.mono (by have:=HZ.out.mt.lt;omega))
 have C1:=hid (CT.out W2 HBW.out)
 clear p0 p1 c00 hW1 hW2 CT
 rcases hkd with h5 | ⟨h4,hl⟩
 ·have F1 := hid (FINI.out h5)
  subst h5
  clear FINI FINF FINA CA CF hA4
  go_wp2_with (first
   | (go_at_call 95;(with_reducible refine C1.out.mono ?_);rintro e W3 ⟨rfl,b3⟩;have HB3:=hid b3;have c3:=HC0.out W3 b3;have C2:=hid (CI.out W3 (HBX.out W3 b3));clear b3)
   | (go_at_call 52;(with_reducible refine C2.out.mono ?_);rintro e W4 ⟨rfl,b4⟩;have HB4:=hid (HB3.out.trans (b4.mono HB3.out.size));clear b4))
  go_ret
  exact F1.out _ HB4.out
 ·by_cases h2 : kd <= 2
  ·have h12 : kd = 1 \/ kd = 2 := by omega
   have C3:=hid (fun W S'=>CA.out W S' (hA4.out.2 h4.2) hl)
   have F1:=hid (fun W e=>FINA.out W e h4 hl)
   clear FINI FINF FINA CA CF CI hA4 h4 h2 hl
   rcases h12 with rfl | rfl
   all_goals
    go_wp2_with (first
     | (go_at_call 95;(with_reducible refine C1.out.mono ?_);rintro e W3 ⟨rfl,b3⟩;have HB3:=hid b3;have c3:=HC0.out W3 b3;have C2:=hid (C3.out W3 S (HZ.out.on b3));clear b3)
     | (go_at_call 103;(with_reducible refine C2.out.mono ?_);intro e W4 q4;obtain ⟨bb,rfl,q5⟩:=F1.out W4 e q4;have HQ:=hid q5;clear q4 q5))
    go_ret
    exact ⟨bb,rfl,HQ.out⟩
  ·have h34 : kd = 3 \/ kd = 4 := by omega
   have F1:=hid (FINF.out h34)
   clear FINI FINF FINA CA CI hA4 h4 h2 hl
   rcases h34 with rfl | rfl
   all_goals
    go_wp2_with (first
     | (go_at_call 95;(with_reducible refine C1.out.mono ?_);rintro e W3 ⟨rfl,b3⟩;have HB3:=hid b3;have c3:=HC0.out W3 b3;have C2:=hid (CF.out W3 (HBX.out W3 b3));clear b3)
     | (go_at_call 96;(with_reducible refine C2.out.mono ?_);rintro e W4 ⟨rfl,b4⟩;have HB4:=hid (HB3.out.trans (b4.mono HB3.out.size));clear b4))
    go_ret
    exact F1.out _ HB4.out
end
noncomputable def alikeB (os : List Ob) (a b : Int) : Bool:=@decide (Alike (hpO os) a b) (Classical.propDecidable _)
theorem alikeB_iff (os : List Ob) (a b : Int) : alikeB os a b = true ↔ Alike (hpO os) a b:=by unfold alikeB;exact @decide_eq_true_iff _ (Classical.propDecidable _)
theorem alikeB_no {os : List Ob} {a b : Int} (h : ¬ Alike (hpO os) a b) : alikeB os a b = false:=by
 cases e : alikeB os a b
 ·rfl
 ·exact absurd ((alikeB_iff os a b).1 e) h
section
variable {B : Nat} {v : Value} {N : Int} {os : List Ob} {F : Nat -> Prop}
set_option maxHeartbeats 8000000 in
theorem eequal_any (a b : Int) (ha : U64 a) (hb : U64 b) (w : World) (h : HE B v N os F w) (hT : TabsS w) (hX : TxOk os) : Calls Tryz.prog 22 #[v,.int .u64 a,.int .u64 b] w fun e w'=>e = .returned (.bool (alikeB os a b)) /\ Below w.heap.size w w':=by
 have hus:=h.used
 have hol:=os_le os
 have hMM : 2 * os.length <= 10000000:=by omega
 obtain ⟨M,hM⟩ : ∃ M,M = 2 * os.length:=⟨_,rfl⟩
 have hmg:=MG.start os a b
 rw [<- hM] at hmg hMM
 have hmt:=MT.start w v
 obtain ⟨W1,hW1⟩ : ∃ W,W = ((w.alloc (.map #[] 0)).alloc (.map #[] 0)).alloc (.cells #[v,.map (some w.heap.size),.map (some (w.heap.size + 1)),.slice none 0 0] 113):=⟨_,rfl⟩
 rw [<- hW1] at hmt
 have CM : Hid (Calls Tryz.prog 56 #[.pointer (some ⟨w.heap.size + 2,0,none⟩),.int .u64 a,.int .u64 b] W1 (MeEnd os a b (fun _=>False) M w.heap.size w v ⟨id,fun _=>0,fun _=>none,[],[],[],[],.slice none 0 0⟩ a b)):=emeet_any a b ha hb W1 h ⟨hmt,hmg⟩ id hMM
 have CF : Hid (∀ (M' : Nat) (S : US) (x y : Int) (W : World),M' <= 10000000 -> MZ os a b (fun r=>r = (x,y)) M' w.heap.size w v S W -> May (hpO os) x y -> U64 x -> U64 y -> x ≠ y -> (Alike (hpO os) a b -> Alike (hpO os) x y) -> Calls Tryz.prog 57 #[.pointer (some ⟨w.heap.size + 2,0,none⟩),.agg #[.int .u64 x,.int .u64 y]] W (MfEnd os a b M' w.heap.size w v S x y)):=fun M' S x y W h1 h2 h3 h4 h5 h6 h7=>emf_any x y W h hT hX h2 h3 h4 h5 h6 h7 h1
 have hmm:=@run_makeMap Tryz.prog
 obtain ⟨gh,rfl⟩:=h.ph.ptr
 have HW1:=hid hW1
 clear h hT hX ha hb hus hol hM hmg hmt hW1
 go_enter Tryz.func22,Tryz.ntmps22
 go_wp2_with (go_at_call 56;rw [<- HW1.out];(with_reducible refine CM.out.mono ?_);rintro e W2 ⟨bb,rfl,S1,m2,k2,t2,n2⟩;have HZ2:=hid m2;have HT2:=hid t2;have HN2:=hid n2;clear m2 k2 t2 n2)
 clear hmm CM
 obtain ⟨bA,hbA⟩ : ∃ b,b = w.heap.size:=⟨_,rfl⟩
 rw [<- hbA] at HZ2 CF ⊢
 have HBA:=hid hbA
 clear hbA HW1
 go_loopg [8,9,10] (M + 1) (fun gk al _ _ wr=>∃ (bb : Bool) (M' : Nat),al = .bool bb /\ M' < gk /\ M' <= 10000000 /\ Hid ((bb = true -> ∃ S,MZ os a b (fun _=>False) M' bA w (.pointer (some ⟨gh,0,none⟩)) S wr /\ S.root a = S.root b) /\ (bb = false -> ¬ Alike (hpO os) a b) /\ Below bA w wr))
 case atStart=>exact ⟨bb,M,rfl,by omega,hMM,fun e=>⟨S1,HZ2.out,HT2.out e⟩,HN2.out,HZ2.out.mt.bel⟩
 case round =>
  obtain ⟨bb,M',rfl,hgk,hM',hI⟩:=hrel
  obtain ⟨ht,hn,hbel⟩:=hI.out
  have HBEL:=hid hbel
  cases bb
  ·have HNA := hid (alikeB_no (hn rfl))
   clear hI ht hn hbel
   go_wp2_with fail
   go_ret
   rw [HNA.out,<- HBA.out]
   exact ⟨rfl,HBEL.out⟩
  ·obtain ⟨S, hz, hr⟩ := ht rfl
   obtain ⟨aO,cO,hvo,hoc,hom⟩:=slice_form hz.mt.ow
   by_cases hop : S.op = []
   ·have HA := hid ((alikeB_iff os a b).2 (hz.mg.alike hop hr))
    have k3 : wr.cell? ⟨bA + 2,3,none⟩ = some (.slice aO 0 cO):=by
     have:=blk_cell hz.mt.box 3
     rw [hvo,hop] at this
     exact this
    clear hI hn ht hbel hz hr hvo hop hoc
    go_wp2_with fail
    go_ret
    rw [HA.out,<- HBA.out]
    exact ⟨rfl,HBEL.out⟩
   ·obtain ⟨op', p, hpo⟩ : ∃ s0 o, S.op = s0 ++ [o] := ⟨S.op.dropLast, S.op.getLast hop, (List.dropLast_concat_getLast _).symm⟩
    obtain ⟨x,y⟩:=p
    have hmt:=hz.mt
    rw [hpo] at hmt
    obtain ⟨g,cap,hv1,hc1,hc2,d0,d1,_⟩:=hmt.pop
    have hmt2:=hmt.on (Ba wr (.cells #[.int .u64 x,.int .u64 y] 115))
    obtain ⟨g',cap',hv2,_,_,_,_,hp2⟩:=hmt2.pop
    have e2 : g = g' /\ cap = cap':=by rw [hv1] at hv2;injection hv2 with e1 e2 e3;injection e1 with e1;injection e1 with e1;exact ⟨e1,e3⟩
    obtain ⟨rfl,rfl⟩:=e2
    have k3 : wr.cell? ⟨bA + 2,3,none⟩ = some (.slice (some ⟨g,0,none⟩) (op'.length + 1) cap):=by rw [<- hv1];exact blk_cell hmt.box 3
    have n3 : (wr.alloc (.cells #[.int .u64 x,.int .u64 y] 115)).cell? ⟨bA + 2,3,none⟩ = some (.slice (some ⟨g,0,none⟩) (op'.length + 1) cap):=by rw [<- hv1];exact blk_cell hmt2.box 3
    have f3 : (wr.alloc (.cells #[.int .u64 x,.int .u64 y] 115)).frozen? ⟨bA + 2,3,none⟩ = false:=blk_free hmt2.box 3
    obtain ⟨Wb,hWb⟩ : ∃ W,W = (wr.alloc (.cells #[.int .u64 x,.int .u64 y] 115)).setCell ⟨bA + 2,3,none⟩ (.slice (some ⟨g,0,none⟩) op'.length cap):=⟨_,rfl⟩
    rw [<- hWb] at hp2
    have hlw:=hmt.lt
    have hbox : Wb.heap[wr.heap.size]? = some (.cells #[.int .u64 x,.int .u64 y] 115 (0,0)):=by rw [hWb];exact (Below.heap_setCell _ _ _ _ (by show wr.heap.size ≠ bA + 2;omega)).trans (blk_new _ _ _)
    have m0 : Wb.cell? ⟨wr.heap.size,0,none⟩ = some (.int .u64 x):=blk_cell hbox 0
    have m1 : Wb.cell? ⟨wr.heap.size,1,none⟩ = some (.int .u64 y):=blk_cell hbox 1
    rw [hWb] at m0 m1
    obtain ⟨o1,o2,o3,o4⟩:=hz.mg.opm (x,y) (by rw [hpo];exact List.mem_append_right _ (List.mem_singleton.2 rfl))
    have hal : Alike (hpO os) a b -> Alike (hpO os) x y:=fun e=>hz.mg.al e (x,y) (by rw [hpo];exact List.mem_append_right _ (List.mem_singleton.2 rfl))
    have C1:=hid (CF.out (M' - 1) ⟨S.root,S.d,S.L,S.q,S.hq,op',S.G,.slice (some ⟨g,0,none⟩) op'.length cap⟩ x y Wb (by omega) ⟨hp2,hz.mg.take hpo _⟩ o1 o2 o3 o4 hal)
    have hme:=hz.mg.me
    rw [hpo,List.length_append,List.length_singleton] at hme
    have HR:=hid hr
    have HAL:=hid hal
    obtain ⟨n',hn'⟩ : ∃ n,n = op'.length:=⟨_,rfl⟩
    rw [<- hn'] at k3 n3 d0 d1 hc1 hme
    rw [hWb,<- hn'] at C1
    rw [<- hn'] at m0 m1
    unfold maxLen at hc2
    clear hI hn ht hbel hz hr hvo hop hoc hom hpo hmt hmt2 hv1 hv2 hp2 hWb hbox o1 o2 o3 o4 hal hn' hlw
    go_wp2_with (go_at_call 57;(with_reducible refine C1.out.mono ?_);rintro e W3 ⟨bb,rfl,S3,z3,k3,t3,q3⟩;have HZ3:=hid z3;have HK3:=hid k3;have HT3:=hid t3;have HQ3:=hid q3;clear z3 k3 t3 q3)
    go_roundg (gk - 1)
    case measure=>omega
    case rel =>
     refine ⟨bb,M' - 1,rfl,by omega,by omega,fun e=>⟨S3,⟨HZ3.out.mt,HZ3.out.mg.done (HT3.out e)⟩,HK3.out a b HR.out⟩,fun e ha=>HQ3.out e (HAL.out ha),HZ3.out.mt.bel⟩
end
theorem nk_word (k n : Int) (h8 : k ≠ 8) (h2 : k ≠ 2) : nK (wordR k n 0) ≠ 2:=by
 cases h : rightB k n 0
 ·have e0 : wordR k n 0 = 0 := by unfold wordR; rw [h]; rfl
  rw [e0];exact nK_zero
 ·rw [(say h h8 rfl).1];exact h2
theorem objs_text {ws : List Int} {cs : List Nd} : TxOk (objsOf ws cs):=by
 intro x hx h34 z hz
 unfold objsOf at hx
 obtain ⟨d,_,rfl⟩:=List.mem_map.1 hx
 simp only at h34 hz
 unfold fieldsK at h34
 unfold fieldsL at hz
 split at hz
 ·rename_i e;rw [if_pos e] at h34;omega
 rename_i e3
 rw [if_neg e3] at h34
 split at hz
 ·obtain ⟨x,_,rfl⟩:=List.mem_map.1 hz;exact nk_word _ _ (by decide) (by decide)
 rename_i e5
 rw [if_neg e5] at h34
 split at hz
 ·unfold bytesL at hz
  obtain ⟨x,_,rfl⟩:=List.mem_map.1 hz;exact nk_word _ _ (by decide) (by decide)
 ·rename_i e9
  rw [if_neg e9] at h34
  split at h34 <;> omega
def rangeI (n : Nat) : List Int:=(List.range n).map (fun k : Nat=>(k : Int))
def laidR (ns : List Nd) : List Int × Int × List Ob × List ByteArray:=putR 20000 [] [] ns (rangeI ns.length)
theorem laid_text {ns : List Nd} (hs : smallG ns) (hk : ∀ d∈ns,d.kids.length <= 100) (hn : ns.length <= 100) : TxOk (laidR ns).2.2.1:=by
 by_cases e : (laidR ns).2.1 = 0
 ·rw [laidR, (put_done (N := 20000) (os := []) (nm := []) (rs := rangeI ns.length) e hs hk hn (by omega) (by simp)).objs]
  exact objs_text
 ·rw [laidR, (put_error (N := 20000) (os := []) (nm := []) (ns := ns) (rs := rangeI ns.length) e).2.1]
  intro x hx;cases hx
theorem range_succ (n : Nat) : rangeI (n + 1) = rangeI n ++ [(n : Int)]:=by unfold rangeI;rw [List.range_succ,List.map_append];rfl
theorem range_len (n : Nat) : (rangeI n).length = n:=by simp [rangeI]
theorem range_rng {n : Nat} {z : Int} (h : z∈rangeI n) : 0 <= z /\ z < n:=by
 unfold rangeI at h
 obtain ⟨k,hk,rfl⟩:=List.mem_map.1 h
 have:=List.mem_range.1 hk
 omega
def LaidP (ns : List Nd) (w : World) (e : Ending) (w' : World) : Prop :=
 ∃ v g ao cap F vL ls B',e = .returned (.tuple #[v,.pointer (some ⟨g,0,none⟩),.slice ao (laidR ns).1.length cap,.bool true]) /\ URow w' ao (laidR ns).1.length cap (laidR ns).1 /\ HE w.heap.size v 20000 (laidR ns).2.2.1 F w' /\ RH B' g 20000 vL ls w' /\ ls.map Prod.fst = (laidR ns).2.2.1 /\ (∀ b,F b -> ¬ RF g vL ls b) /\ (∀ a,ao = some a -> ¬ F a.block) /\ Below w.heap.size w w'
theorem laid_put {Wl W1 W2 W3 W4 : World} {v vn : Value} {F1 F2 : Nat -> Prop} {g : Nat} {ns : List Nd} {ao : Option Addr} {cap : Nat} {F' : Nat -> Prop}
  (hp1 : PH Wl.heap.size v 20000 [] F1 W1) (b1 : Below Wl.heap.size Wl W1) (hg2 : W1.heap.size <= g) (hr2 : RH W1.heap.size g 20000 (.slice none 0 0) [] W2) (b2 : Below W1.heap.size W1 W2) (hp3 : NP W2.heap.size vn [] F2 W3) (b3 : Below W2.heap.size W2 W3)
  (hu : URow W4 ao (laidR ns).1.length cap (laidR ns).1) (p4 : PN Wl.heap.size v vn 20000 (laidR ns).2.2.1 (laidR ns).2.2.2 F' W4) (q4 : ∀ b,F' b -> (F1 b \/ F2 b) \/ W3.heap.size <= b) (m4 : Mod (fun b=>F1 b \/ F2 b) W3 W4) (n4 : ∀ a,ao = some a -> ¬ F' a.block) (z4 : ∀ a,ao = some a -> W3.heap.size <= a.block) :
  HN W1.heap.size g 20000 (.slice none 0 0) [] W4.heap.size (.slice none 0 0) [] (W4.alloc (.cells #[.slice none 0 0] 73)) /\
  (∀ w',(∀ b,b < (W4.alloc (.cells #[.slice none 0 0] 73)).heap.size -> ¬ HNF g (.slice none 0 0) [] W4.heap.size (.slice none 0 0) b -> w'.heap[b]? = (W4.alloc (.cells #[.slice none 0 0] 73)).heap[b]?) -> (W4.alloc (.cells #[.slice none 0 0] 73)).heap.size <= w'.heap.size -> URow w' ao (laidR ns).1.length cap (laidR ns).1 /\ ∃ F,HE Wl.heap.size v 20000 (laidR ns).2.2.1 F w' /\ (∀ b,F b -> F' b) /\ (∀ a,ao = some a -> ¬ F a.block)) /\
  (∀ b,F' b -> ¬ HNF g (.slice none 0 0) [] W4.heap.size (.slice none 0 0) b /\ b < (W4.alloc (.cells #[.slice none 0 0] 73)).heap.size):=by
 have s1:=b1.size
 have s2:=b2.size
 have s3:=b3.size
 have s4:=m4.size
 have hF1 : ∀ b,F1 b -> b < W1.heap.size:=fun b e=>(hp1.ge b e).2
 have hF2 : ∀ b,F2 b -> W2.heap.size <= b /\ b < W3.heap.size:=fun b e=>hp3.ge b e
 have hRF : ∀ b,RF g (.slice none 0 0) [] b -> W1.heap.size <= b /\ b < W2.heap.size:=fun b e=>hr2.foot_ge b e
 have hr4 : RH W1.heap.size g 20000 (.slice none 0 0) [] W4:=(hr2.on b3).mod m4 (fun b e1 e2=>by
  have:=hRF b e1
  rcases e2 with e2 | e2
  ·have:=hF1 b e2;omega
  ·have:=hF2 b e2;omega)
 have b5:=Ba W4 (.cells #[.slice none 0 0] 73)
 have s5 : (W4.alloc (.cells #[.slice none 0 0] 73)).heap.size = W4.heap.size + 1:=size_alloc _ _
 have hN : ∀ b,HNF g (.slice none 0 0) [] W4.heap.size (.slice none 0 0) b -> (W1.heap.size <= b /\ b < W2.heap.size) \/ b = W4.heap.size:=fun b e=>by
  rcases e with e | e
  ·exact .inl (hRF b e)
  ·rcases e with e | e
   ·exact .inr e
   ·cases e
 have hF' : ∀ b,F' b -> ¬ HNF g (.slice none 0 0) [] W4.heap.size (.slice none 0 0) b /\ b < (W4.alloc (.cells #[.slice none 0 0] 73)).heap.size:=fun b e=>by
  have hl:=(p4.ge b e).2
  refine ⟨fun e2=>?_,by omega⟩
  rcases hN b e2 with e3 | e3
  ·rcases q4 b e with (e4 | e4) | e4
   ·have:=hF1 b e4;omega
   ·have:=hF2 b e4;omega
   ·omega
  ·omega
 refine ⟨⟨hr4.on b5,⟨blk_new _ _ _,World.ownsRow_nil _ _ _ _,fun e=>(by cases e),by omega⟩,fun b e1 e2=>?_⟩,fun w' hw hs=>?_,hF'⟩
 ·have := hRF b e1
  rcases e2 with e2 | e2
  ·omega
  ·cases e2
 ·have p6 : PN Wl.heap.size v vn 20000 (laidR ns).2.2.1 (laidR ns).2.2.2 F' w' := (p4.on b5).keep (fun b e => hw b (hF' b e).2 (hF' b e).1)
  obtain ⟨FA,FB,k1,k2,k3,k4⟩:=p6.ok
  refine ⟨(hu.on b5).keep hs (fun hne a hab=>?_),FA,⟨k1,p6.fine⟩,fun b e=>(k4 b).2 (.inl e),fun a ha e=>n4 a ha ((k4 _).2 (.inl e))⟩
  have hz:=z4 a hab
  have hlt : a.block < W4.heap.size:=by
   rcases hu.rd with e | ⟨b,o,e,h1,_⟩
   ·exact absurd e hne
   ·rw [e] at hab;cases hab;exact h1
  refine hw a.block (by omega) (fun e=>?_)
  rcases hN _ e with e3 | e3 <;> omega
theorem results_fourt {fn : Func} {t u v x : Tmp} (h : fn.results = #[.tmp t,.tmp u,.tmp v,.tmp x]) (tmps : Array Value) (P : Program) (w : World) :
  (results fn tmps).run P w = .ok (.tuple #[tmps.getD t undef,tmps.getD u undef,tmps.getD v undef,tmps.getD x undef]) w:=by
 simp [results,h]
set_option maxHeartbeats 16000000 in
theorem laid_any (an ar : Option Addr) (nn cn nr cr : Nat) (ns : List Nd) (rs : List Int) (w : World) (G : GIs w an nn cn ar nr cr ns rs) (hs : smallG ns) (hk : ∀ d∈ns,d.kids.length <= 100) (hn : nn <= 100) (hT : TabsS w) :
  Calls Tryz.prog 17 #[GVal an nn cn ar nr cr] w (LaidP ns w):=by
 have hln:=G.nodes.len
 have hfi:=G.nodes.fits
 have hmo:=G.nodes.most
 unfold maxLen at hmo
 have HG:=hid G
 have HSM:=hid hs
 have HKD:=hid hk
 have HT:=hid hT
 obtain ⟨g0,hg0⟩ : ∃ g,g = w.heap.size:=⟨_,rfl⟩
 have HS0 : Hid ((w.alloc (.cells #[.slice an nn cn,.slice none 0 0] 34)).heap[g0]? = some (.cells #[.slice an nn cn,.slice none 0 0] 34 (0,0)) /\ Below w.heap.size w (w.alloc (.cells #[.slice an nn cn,.slice none 0 0] 34))):=⟨by rw [hg0];exact blk_new _ _ _,Ba w _⟩
 have HG0:=hid hg0
 unfold GVal
 clear G hs hk hT
 go_enter Tryz.func17,Tryz.ntmps17
 go_wp2_with fail
 rw [<- HG0.out]
 rw [<- HG0.out] at HS0
 go_loopw [6] (fun i wr=>∃ q : Nat,q <= nn /\ i = .int .i64 q /\ Hid (∃ vo,wr.heap[g0]? = some (.cells #[.slice an nn cn,vo] 34 (0,0)) /\ wr.ownsRow (g0 + 1) 3 1 vo q (iz (rangeI q)) /\ Below g0 w wr)) (fun i _=>nn - (intOf i).toNat)
 case atStart=>exact ⟨0,Nat.zero_le _,rfl,.slice none 0 0,HS0.out.1,World.ownsRow_nil _ _ _ _,HS0.out.2⟩
 case round =>
  clear HS0 hg0
  obtain ⟨q,hq,rfl,hI⟩:=hrel
  obtain ⟨vo,h1,h2,h3⟩:=hI.out
  obtain ⟨ao,co,rfl,hco,hcm⟩:=slice_form h2
  have k0 : wr.cell? ⟨g0,0,none⟩ = some (.slice an nn cn):=blk_cell h1 0
  have k1 : wr.cell? ⟨g0,1,none⟩ = some (.slice ao q co):=blk_cell h1 1
  have H1:=hid h1
  have H2:=hid h2
  have H3:=hid h3
  have hlt0 : g0 < wr.heap.size:=(Array.getElem?_eq_some_iff.1 h1).1
  clear hI h1 h2 h3
  by_cases hlt : q < nn
  ·have HA : Hid ((wr.alloc (.cells #[.int .i64 q] 3)).ownsRow (g0 + 1) 3 1 (.slice ao q co) q (iz (rangeI q))) := own_at H2.out (fun k e => (Ba wr _).block k (H2.out.lt k e).2)
   have HC : Hid ((wr.alloc (.cells #[.int .i64 q] 3)).cell? ⟨wr.heap.size,0,none⟩ = some (.int .i64 q)):=blk_cell (blk_new wr #[.int .i64 q] 3) 0
   have HZ : Hid (g0 + 1 <= (wr.alloc (.cells #[.int .i64 q] 3)).heap.size):=by unfold Hid;rw [size_alloc];omega
   have HE : Hid (∀ (g cap : Nat) (w4 : World),w4.ownsRow (g0 + 1) 3 1 (.slice (some ⟨g,0,none⟩) (q + 1) cap) (q + 1) (iz (rangeI q ++ [(q : Int)])) -> (wr.alloc (.cells #[.int .i64 q] 3)).grownBy w4 (Value.slice ao q co).ownBlock -> ((Value.slice ao q co).ownBlock = some g \/ g = (wr.alloc (.cells #[.int .i64 q] 3)).heap.size) ->
     w4.cell? ⟨g0,1,none⟩ = some (.slice ao q co) /\ w4.frozen? ⟨g0,1,none⟩ = false /\ ∃ vo,(w4.setCell ⟨g0,1,none⟩ (.slice (some ⟨g,0,none⟩) (q + 1) cap)).heap[g0]? = some (.cells #[.slice an nn cn,vo] 34 (0,0)) /\ (w4.setCell ⟨g0,1,none⟩ (.slice (some ⟨g,0,none⟩) (q + 1) cap)).ownsRow (g0 + 1) 3 1 vo (q + 1) (iz (rangeI (q + 1))) /\ Below g0 w (w4.setCell ⟨g0,1,none⟩ (.slice (some ⟨g,0,none⟩) (q + 1) cap))):=fun g cap w4 ho hg hl=>by
    have hb:=Ba wr (.cells #[.int .i64 q] 3)
    have hown : ∀ k,(Value.slice ao q co).ownBlock = some k -> g0 + 1 <= k:=fun k e=>(H2.out.lt k e).1
    have hx : w4.heap[g0]? = some (.cells #[.slice an nn cn,.slice ao q co] 34 (0,0)):=(hg.block g0 (by rw [size_alloc];omega) (fun e=>by have:=hown g0 e.symm;omega)).trans ((hb.block g0 hlt0).trans H1.out)
    refine ⟨blk_cell hx 1,blk_free hx 1,_,by rw [blk_set (i:=1) hx];rfl,?_,?_⟩
    ·rw [range_succ]
     exact own_at ho (fun k e=>Below.heap_setCell _ _ _ _ (fun e'=>by
      have : g = k:=Option.some.inj e
      have e'' : k = g0:=e'
      rcases hl with h | h
      ·have:=hown g h;omega
      ·rw [size_alloc] at h;omega))
    ·exact (H3.out.trans ((hb.mono (by omega)).trans ⟨hg.os,hg.tape,hg.output,hg.size,fun k hk=>hg.block k (by rw [size_alloc];omega) (fun e=>by have:=hown k e.symm;omega)⟩)).setCell (p:=⟨g0,1,none⟩) (Nat.le_refl _) _
   go_wp2_with (at_builtin;refine appi rfl _ _ 32 rfl (g0 + 1) 3 Tryz.underlying32 info_iz _ q (rangeI q) rfl HA.out ⟨wr.heap.size,0,none⟩ 1 (q : Nat) rfl HC.out (by omega) HZ.out ?_;intro g cap w4 ho4 hg4 hl4 hlt4;obtain ⟨x1,x2,x3⟩:=HE.out g cap w4 ho4 hg4 hl4;have HX3:=hid x3;clear ho4 hg4 hl4 hlt4 x3)
   exact ⟨⟨q + 1,by omega,by go_num,HX3.out⟩,by simp [intOf] <;> omega⟩
  ·obtain rfl : nn = q := by omega
   have hir:=H2.out
   obtain ⟨ao',co',e1,hir⟩:=irow_own (l:=rangeI nn) (by rw [range_len];exact hir) (fun z hz=>by have:=range_rng hz;unfold I64;omega)
   rw [range_len] at e1 hir
   have e2 : ao = ao' /\ co = co':=by injection e1 with e1 _ e3;exact ⟨e1,e3⟩
   obtain ⟨rfl,rfl⟩:=e2
   have HGR : Hid (GIs wr an nn cn ao nn co ns (rangeI nn)):=⟨(HG.out.below (by rw [<- HG0.out];exact H3.out)).nodes,hir⟩
   have CN : Hid (∀ wx,Calls Tryz.prog 29 #[.int .i64 20000] wx fun e w'=>∃ v F,e = .returned (.tuple #[v,.int .i64 0]) /\ PH wx.heap.size v 20000 [] F w' /\ Below wx.heap.size wx w'):=fun wx=>by
    refine (pnew_is 20000 (by unfold Z64;omega) wx).mono (fun e w' h=>?_)
    unfold NewP at h
    rw [if_neg (by omega)] at h
    exact h
   have CR : Hid (∀ wx,Calls Tryz.prog 30 #[.int .i64 20000] wx fun e w'=>∃ g,e = .returned (.tuple #[.pointer (some ⟨g,0,none⟩),.int .i64 0]) /\ wx.heap.size <= g /\ RH wx.heap.size g 20000 (.slice none 0 0) [] w' /\ Below wx.heap.size wx w'):=fun wx=>by
    refine (rnew_any 20000 (by unfold Z64;omega) wx).mono (fun e w' h=>?_)
    rw [if_neg (by omega)] at h
    exact h
   have HTR : Hid (TabsS wr):=TabsS.below HT.out (by rw [<- HG0.out];exact H3.out)
   clear hir e1 HG H2 HT
   go_wp2_with (first
    | (go_at_call 29;(with_reducible refine (CN.out wr).mono ?_);rintro e W1 ⟨v,F1,rfl,hp1,b1⟩;have HP1:=hid hp1;have HB1:=hid b1;clear hp1 b1)
    | (go_at_call 30;(with_reducible refine (CR.out W1).mono ?_);rintro e W2 ⟨g,rfl,hg2,hr2,b2⟩;have HG2:=hid hg2;have HR2:=hid hr2;have HB2:=hid b2;clear hg2 hr2 b2))
   have hb12 : Below wr.heap.size wr W2:=HB1.out.trans (HB2.out.mono HB1.out.size)
   have HX2 : Hid (W2.heap[g0]? = some (.cells #[.slice an nn cn,.slice ao nn co] 34 (0,0))):=(hb12.block g0 hlt0).trans H1.out
   have HB12:=hid hb12
   have y0 : W2.cell? ⟨g0,0,none⟩ = some (.slice an nn cn):=blk_cell HX2.out 0
   have y1 : W2.cell? ⟨g0,1,none⟩ = some (.slice ao nn co):=blk_cell HX2.out 1
   clear CN CR k0 k1 hb12
   have hgok : ∀ wx,Below wr.heap.size wr wx -> GOk wx an nn cn ao nn co ns (rangeI nn):=fun wx hb=>⟨HGR.out.below hb,HSM.out,HKD.out,by omega,by omega⟩
   have hlr : laidR ns = putR 20000 [] [] ns (rangeI nn):=by unfold laidR;rw [hln]
   have CP : Hid (∀ (W3 : World) (vn : Value) (F2 : Nat -> Prop),NP W2.heap.size vn [] F2 W3 -> Below W2.heap.size W2 W3 -> Calls Tryz.prog 46 #[v,vn,.agg #[.slice an nn cn,.slice ao nn co]] W3 fun e W4=>∃ (a4 : Option Addr) (c4 : Nat) (F' : Nat -> Prop),e = .returned (.tuple #[.slice a4 (laidR ns).1.length c4,.int .i64 (laidR ns).2.1]) /\
     HN W1.heap.size g 20000 (.slice none 0 0) [] W4.heap.size (.slice none 0 0) [] (W4.alloc (.cells #[.slice none 0 0] 73)) /\
     (∀ w',(∀ b,b < (W4.alloc (.cells #[.slice none 0 0] 73)).heap.size -> ¬ HNF g (.slice none 0 0) [] W4.heap.size (.slice none 0 0) b -> w'.heap[b]? = (W4.alloc (.cells #[.slice none 0 0] 73)).heap[b]?) -> (W4.alloc (.cells #[.slice none 0 0] 73)).heap.size <= w'.heap.size -> URow w' a4 (laidR ns).1.length c4 (laidR ns).1 /\ ∃ F,HE wr.heap.size v 20000 (laidR ns).2.2.1 F w' /\ (∀ b,F b -> F' b) /\ (∀ a,a4 = some a -> ¬ F a.block)) /\
     (∀ b,F' b -> ¬ HNF g (.slice none 0 0) [] W4.heap.size (.slice none 0 0) b /\ b < (W4.alloc (.cells #[.slice none 0 0] 73)).heap.size) /\
     URow W4 a4 (laidR ns).1.length c4 (laidR ns).1 /\ Below wr.heap.size wr W4 /\ W1.heap.size <= W4.heap.size):=fun W3 vn F2 hn3 b3=>by
    have hpn:=pn_new (HP1.out.keep (fun b e=>HB2.out.block b (HP1.out.ge b e).2)) (HB1.out.trans (HB2.out.mono HB1.out.size)) hn3 b3
    have hb3 : Below wr.heap.size wr W3:=HB12.out.trans (b3.mono HB12.out.size)
    have hput:=sput_any an ao nn cn nn co ns (rangeI nn) W3 hpn (hgok W3 hb3) hn hn hb3.size (by simp) (TabsS.below HTR.out hb3)
    rw [<- hlr] at hput
    refine hput.mono ?_
    rintro e W4 ⟨a4,c4,rfl,hu4,F',p4,q4,m4,n4,z4⟩
    obtain ⟨r1,r2,r3⟩:=laid_put HP1.out HB1.out HG2.out HR2.out HB2.out hn3 b3 hu4 p4 q4 m4 n4 z4
    have hb4 : Below wr.heap.size wr W4:=hb3.trans (m4.below (fun b e=>(hpn.ge b e).1) hb3.size)
    exact ⟨a4,c4,F',rfl,r1,r2,r3,hu4,hb4,Nat.le_trans HB2.out.size (Nat.le_trans b3.size m4.size)⟩
   obtain ⟨nw,hnw⟩ : ∃ n,n = (laidR ns).1.length:=⟨_,rfl⟩
   obtain ⟨er,her⟩ : ∃ n,n = (laidR ns).2.1:=⟨_,rfl⟩
   rw [<- hnw,<- her] at CP
   have KS : Hid (∀ W,Below wr.heap.size wr W -> W.cell? ⟨g0,0,none⟩ = some (.slice an nn cn) /\ W.cell? ⟨g0,1,none⟩ = some (.slice ao nn co)):=fun W hb=>by
    have:=(hb.block g0 hlt0).trans H1.out
    exact ⟨blk_cell this 0,blk_cell this 1⟩
   have KB : Hid (∀ W,Below W2.heap.size W2 W -> Below wr.heap.size wr W):=fun W hb=>HB12.out.trans (hb.mono HB12.out.size)
   have HLR:=hid hlr
   have HNW:=hid hnw
   have HER:=hid her
   have HGK:=hid hgok
   clear hgok hlr hnw her
   have CD : Hid (∀ (W4 : World) (a4 : Option Addr) (c4 : Nat) (F' : Nat -> Prop),HN W1.heap.size g 20000 (.slice none 0 0) [] W4.heap.size (.slice none 0 0) [] (W4.alloc (.cells #[.slice none 0 0] 73)) ->
     (∀ w',(∀ b,b < (W4.alloc (.cells #[.slice none 0 0] 73)).heap.size -> ¬ HNF g (.slice none 0 0) [] W4.heap.size (.slice none 0 0) b -> w'.heap[b]? = (W4.alloc (.cells #[.slice none 0 0] 73)).heap[b]?) -> (W4.alloc (.cells #[.slice none 0 0] 73)).heap.size <= w'.heap.size -> URow w' a4 nw c4 (laidR ns).1 /\ ∃ F,HE wr.heap.size v 20000 (laidR ns).2.2.1 F w' /\ (∀ b,F b -> F' b) /\ (∀ a,a4 = some a -> ¬ F a.block)) ->
     (∀ b,F' b -> ¬ HNF g (.slice none 0 0) [] W4.heap.size (.slice none 0 0) b /\ b < (W4.alloc (.cells #[.slice none 0 0] 73)).heap.size) -> URow W4 a4 nw c4 (laidR ns).1 -> Below wr.heap.size wr W4 -> W1.heap.size <= W4.heap.size ->
     Calls Tryz.prog 51 #[.pointer (some ⟨g,0,none⟩),.pointer (some ⟨W4.heap.size,0,none⟩),.agg #[.slice an nn cn,.slice ao nn co]] (W4.alloc (.cells #[.slice none 0 0] 73)) fun e w'=>∃ (a5 : Option Addr) (c5 : Nat),e = .returned (.tuple #[.slice a5 nw c5,.int .i64 er]) /\ URow w' a5 nw c5 (laidR ns).1 /\ URow w' a4 nw c4 (laidR ns).1 /\ ∃ F vL ls B',HE wr.heap.size v 20000 (laidR ns).2.2.1 F w' /\ RH B' g 20000 vL ls w' /\ ls.map Prod.fst = (laidR ns).2.2.1 /\ (∀ b,F b -> ¬ RF g vL ls b) /\ (∀ a,a4 = some a -> ¬ F a.block) /\ Below wr.heap.size wr w'):=fun W4 a4 c4 F' r1 r2 r3 hu4 b4 l4=>by
    have b5:=Bt b4 (Ba W4 (.cells #[.slice none 0 0] 73))
    have hB : W1.heap.size <= (W4.alloc (.cells #[.slice none 0 0] 73)).heap.size:=by rw [size_alloc];omega
    have hput:=rput_any an ao nn cn nn co ns (rangeI nn) _ r1 (HGK.out _ b5).is HSM.out HKD.out hn hn hB (by simp)
    rw [List.map_nil,<- HLR.out] at hput
    refine hput.mono ?_
    rintro e w' ⟨vv,rfl,ho,hp⟩
    obtain ⟨a5,c5,rfl,hu5⟩:=urow_own ho hu4.bd
    obtain ⟨vL',ls',vN',k1,k2,k3,k4⟩:=hp
    obtain ⟨u4,F,q1,q2,q3⟩:=r2 w' (fun b hb hn=>k4.block b hb hn) k4.size
    refine ⟨a5,c5,by rw [HNW.out,HER.out],by rw [HNW.out];exact hu5,u4,F,vL',ls',_,q1,k1.heap,k2,fun b e1 e2=>?_,q3,b5.trans (k4.below (fun b e=>Nat.le_trans HB1.out.size (r1.ge b e).1) b5.size)⟩
    rcases k3 b (.inl e2) with e3 | e3
    ·exact (r3 b (q2 b e1)).1 e3
    ·have:=(r3 b (q2 b e1)).2;omega
   have y3 : ∀ W,Below W2.heap.size W2 W -> W.cell? ⟨g0,0,none⟩ = some (.slice an nn cn) /\ W.cell? ⟨g0,1,none⟩ = some (.slice ao nn co):=fun W hb=>KS.out W (KB.out W hb)
   go_region_with (first
     | (go_at_call 31;refine (pnames_any W2.drew).mono ?_;rintro e W3 ⟨vn,F2,rfl,hp3,b3'⟩;have b3:=Bt (Bd W2 1) b3';obtain ⟨z0,z1⟩:=KS.out W3 (KB.out W3 b3);have C4:=hid (CP.out W3 vn F2 hp3 b3);clear hp3 b3 b3')
     | (go_at_call 46;refine C4.out.mono ?_;rintro e W4 ⟨a4,c4,F',rfl,r1,r2,r3,u4,b4,l4⟩;have R1:=hid r1;have R2:=hid r2;have R3:=hid r3;have HU4:=hid u4;have HB4:=hid b4;have HL4:=hid l4;clear r1 r2 r3 u4 b4 l4))
   all_goals
    clear CP C4 y3 y0 y1
    have C5:=hid (CD.out W4 a4 c4 F' R1.out R2.out R3.out HU4.out HB4.out HL4.out)
    obtain ⟨x0,x1⟩:=KS.out _ (Bt HB4.out (Ba W4 (.cells #[.slice none 0 0] 73)))
    have hee : (er != er) = false:=by simp
    have hnn : ((nw : Int) != (nw : Int)) = false:=by simp
    simp only [Act.put,List.setIfInBounds_toArray,List.set_cons_zero,List.set_cons_succ]
    go_wp2_with (go_at_call 51;refine C5.out.mono ?_;rintro e W6 ⟨a5,c5,rfl,u5,u4,q6⟩;have HU5:=hid u5;have HU6:=hid u4;have HQ6:=hid q6;clear u5 u4 q6)
    have hw6:=HU6.out.len
    have hf6:=HU6.out.fits
    have hm6:=HU6.out.most
    have hf5:=HU5.out.fits
    have hm5:=HU5.out.most
    unfold maxLen at hm6 hm5
    have HFIN : Hid (∀ wx,Below W6.heap.size W6 wx -> LaidP ns w (.returned (.tuple #[v,.pointer (some ⟨g,0,none⟩),.slice a4 nw c4,.bool true])) wx):=fun wx hb=>by
     obtain ⟨F,vL,ls,B',q1,q2,q3,q4,q5,q6⟩:=HQ6.out
     have hww : Below w.heap.size w wr:=by rw [<- HG0.out];exact H3.out
     refine ⟨v,g,a4,c4,F,vL,ls,B',by rw [<- HNW.out],by rw [<- HNW.out];exact HU6.out.on hb,⟨(q1.on hb).ph.weak hww.size,q1.fine⟩,q2.on hb,q3,q4,q5,?_⟩
     exact (hww.trans (q6.mono hww.size)).trans (hb.mono (by have:=hww.size;have:=q6.size;omega))
    clear C5 CD R1 R2 R3 HU4 x0 x1 hee hnn H1 HX2
    go_loopw [15] (fun i wx=>∃ q : Nat,q <= nw /\ i = .int .i64 q /\ Hid (Below W6.heap.size W6 wx)) (fun i _=>nw - (intOf i).toNat)
    case atStart=>exact ⟨0,Nat.zero_le _,rfl,Below.refl _ _⟩
    case round =>
     obtain ⟨q,hq,rfl,hI⟩:=hrel
     by_cases hlt : q < nw
     ·obtain ⟨bb4, oo4, ea4, _, hc4⟩ := (HU6.out.on hI.out).some (by omega)
      obtain ⟨bb5,oo5,ea5,_,hc5⟩:=(HU5.out.on hI.out).some (by omega)
      subst ea4 ea5
      have l4:=hc4 q hlt
      have l5:=hc5 q hlt
      obtain ⟨z,hz⟩ : ∃ z,z = (laidR ns).1.getD q 0:=⟨_,rfl⟩
      rw [<- hz] at l4 l5
      have hzz : (z != z) = false:=by simp
      clear hc4 hc5 hz
      go_wp2_with fail
      go_quiet (fail)
      go_wp2_with fail
      exact ⟨⟨q + 1,by omega,by go_num,Bt hI.out (Bd _ nq)⟩,by simp [intOf] <;> omega⟩
     ·obtain rfl : nw = q := by omega
      go_wp2_with fail
      (try simp only [Exit.inBlock,Exit.then]);refine bodyPost_ret (results_fourt rfl _ _ _) rfl ?_
      exact HFIN.out _ hI.out
end Go.Proofs.YticimejfjjmikaaGreatDoor
