import Derived.Test.YticimejfjjmikaaGreatDoorQ4
import Derived.Deep.RegionWith
import Derived.Test.YticimejfjjmikaaGreatDoorM2
import Derived.Test.YticimejfjjmikaaGreatDoorSG1
import Derived.Test.YticimejfjjmikaaGreatDoorV3
import Derived.Test.YticimejfjjmikaaGreatDoorW16
set_option linter.unusedVariables false
set_option linter.unusedSimpArgs false
set_option maxRecDepth 100000
namespace Go.Proofs.YticimejfjjmikaaGreatDoor
open Go.RowKit
def KF (b : Nat) (w w' : World) : Prop:=w.heap.size <= w'.heap.size /\ ∀ k,k < w.heap.size -> k ≠ b + 1 -> w'.heap[k]? = w.heap[k]?
theorem KF.trans {b : Nat} {w w1 w2 : World} (h : KF b w w1) (k : KF b w1 w2) : KF b w w2:=⟨Nat.le_trans h.1 k.1,fun j hj hne=>(k.2 j (Nat.lt_of_lt_of_le hj h.1) hne).trans (h.2 j hj hne)⟩
theorem KF.grown {b : Nat} {w w1 : World} (h : w.grownBy w1 (some (b + 1))) : KF b w w1:=⟨h.size,fun k hk hne=>h.block k hk (fun e=>hne (Option.some.inj e))⟩
section
variable {b : Nat} {w0 : World} {v vO : Value} {q : List Int} {L : Int -> Option Int} {hq op : List (Int × Int)} {O : Hp} {root : Int -> Int} {d : Int -> Nat}
set_option maxHeartbeats 4000000 in
theorem leader_any (x : Int) (hx : U64 x) (w : World) (h : MT b w0 v vO q L hq op w) (hF : FO O L root d) (hl : q.length <= 100000000) :
  Calls Tryz.prog 154 #[.pointer (some ⟨b + 2,0,none⟩),.int .u64 x] w fun e w'=>e = .returned (.int .u64 (root x)) /\ U64 (root x) /\ KF b w w' /\ ∃ L',MT b w0 v vO q L' hq op w' /\ FO O L' root d:=by
 have H0 : Hid (∃ L',MT b w0 v vO q L' hq op w /\ FO O L' root d):=⟨L,h,hF⟩
 have HX:=hid hx
 clear h hF hx
 go_enter Tryz.func154,Tryz.ntmps154
 go_wp2_with fail
 go_loopw [1,5,6,7,8] (fun y _ _ _ _ wr=>∃ z,y = .int .u64 z /\ Hid (U64 z /\ root z = root x /\ KF b w wr /\ ∃ L',MT b w0 v vO q L' hq op wr /\ FO O L' root d)) (fun y _ _ _ _ _=>d (intOf y))
 case atStart=>exact ⟨x,rfl,HX.out,rfl,⟨Nat.le_refl _,fun _ _ _=>rfl⟩,H0.out⟩
 case round =>
  obtain ⟨z,rfl,hI⟩:=hrel
  obtain ⟨hz,hrz,hkf,L',hM,hF⟩:=hI.out
  have HKF:=hid hkf
  have c2 : wr.cell? ⟨b + 2,2,none⟩ = some (.map (some (b + 1))):=blk_cell hM.box 2
  obtain ⟨c,hrun,hc⟩:=hM.ml.look hz
  have HM:=hid hM
  have HF:=hid hF
  have HZ:=hid hz
  have HR:=hid hrz
  cases hL : L' z with
  | none =>
   rw [hL] at hrun
   simp only [Option.isSome_none] at hrun
   have e1:=hF.no z hL
   rw [hrz] at e1
   have HE:=hid e1
   clear hI hM hF hkf hz hrz hc hL e1 H0 HX
   go_wp2_with fail
   go_ret
   rw [HE.out]
   exact ⟨rfl,HZ.out,HKF.out,L',HM.out,HF.out⟩
  | some n =>
   rw [hL] at hrun
   simp only [Option.isSome_some] at hrun
   obtain ⟨rfl,hn⟩:=hc n hL
   obtain ⟨c',hrun2,hc2⟩:=hM.ml.look hn
   obtain ⟨hy1,hy2⟩:=hF.yes z c hL
   have HN:=hid hn
   have HY : Hid (root c = root x):=hy1.trans hrz
   have hdd : Hid (d c < d z):=hy2
   cases hL2 : L' c with
   | none =>
    rw [hL2] at hrun2
    simp only [Option.isSome_none] at hrun2
    clear hI hM hF hkf hz hrz hc hc2 hL hL2 hn hy1 hy2 H0 HX
    go_wp2_with fail
    exact ⟨⟨c,rfl,HN.out,HY.out,HKF.out,L',HM.out,HF.out⟩,by simpa [intOf] using hdd.out⟩
   | some f =>
    rw [hL2] at hrun2
    simp only [Option.isSome_some] at hrun2
    obtain ⟨rfl,hf⟩:=hc2 f hL2
    obtain ⟨w2,hst,hm2,hg2⟩:=hM.ml.store (y:=c') hz hf hl
    have hzq : z∈q:=by
     obtain ⟨D,_,_,h3⟩:=hM.ml
     have:=(h3 z hz).2.1
     rw [hL] at this
     simpa using this.symm
    rw [if_pos hzq] at hm2
    have HM2:=hid (hM.turnL hg2 hm2)
    have HF2:=hid (hF.half hL hL2)
    have HK2:=hid (hkf.trans (KF.grown hg2))
    clear hI hM hF hkf hz hrz hc hc2 hL hL2 hn hy1 hy2 H0 HX hm2 hg2 hf hzq
    go_wp2_with fail
    exact ⟨⟨c,rfl,HN.out,HY.out,HK2.out,_,HM2.out,HF2.out⟩,by simpa [intOf] using hdd.out⟩
def JPost (O : Hp) (b : Nat) (w0 : World) (v vO : Value) (q : List Int) (hq op : List (Int × Int)) (root : Int -> Int) (x y : Int) (w' : World) : Prop :=
 if root x = root y then ∃ L' d',MT b w0 v vO q L' hq op w' /\ FO O L' root d' else ∃ L' d',MT b w0 v vO (q ++ [root y]) L' hq op w' /\ root y ∉ q /\ U64 (root y) /\ FO O L' (joined root (root x) (root y)) d'
set_option maxHeartbeats 4000000 in
theorem ejoin_any (x y : Int) (hx : U64 x) (hy : U64 y) (w : World) (h : MT b w0 v vO q L hq op w) (hF : FO O L root d) (hl : q.length <= 100000000) :
  Calls Tryz.prog 102 #[.pointer (some ⟨b + 2,0,none⟩),.int .u64 x,.int .u64 y] w fun e w'=>e = .returned (.bool (decide (root x ≠ root y))) /\ JPost O b w0 v vO q hq op root x y w' /\ KF b w w':=by
 have C1:=hid (leader_any x hx w h hF hl)
 have C2 : Hid (∀ W L',MT b w0 v vO q L' hq op W -> FO O L' root d -> _):=fun W L' hM hF'=>leader_any y hy W hM hF' hl
 have HL:=hid hl
 clear h hF hx hy hl
 have e0 : decide (root x ≠ root y) = !(root x == root y):=by
  by_cases e : root x = root y
  ·simp [e]
  ·simp [e]
 rw [e0]
 have fin : Hid (∀ W L',root x ≠ root y -> U64 (root x) -> U64 (root y) -> MT b w0 v vO q L' hq op W -> FO O L' root d -> ∃ w2,(Instr.mapUpdate 110 (.map (some (b + 1))) (.int .u64 (root y)) (.int .u64 (root x))).run Tryz.prog W = .ok () w2 /\ JPost O b w0 v vO q hq op root x y w2 /\ KF b W w2):=fun W L' hne hux huy hM hF=>by
  obtain ⟨w2,hst,hm2,hg2⟩:=hM.ml.store (y:=root x) huy hux HL.out
  refine ⟨w2,hst,?_,KF.grown hg2⟩
  have hnq : root y ∉ q:=by
   obtain ⟨D,_,_,h3⟩:=hM.ml
   have:=(h3 (root y) huy).2.1
   rw [hF.top y] at this
   simpa using this.symm
  rw [if_neg hnq] at hm2
  unfold JPost
  rw [if_neg hne]
  exact ⟨_,_,hM.turnL hg2 hm2,hnq,huy,hF.join (hF.top x) (hF.top y) hne⟩
 have fin2 : Hid (root x = root y -> ∀ W L',MT b w0 v vO q L' hq op W -> FO O L' root d -> JPost O b w0 v vO q hq op root x y W):=fun e W L' hM hF=>by
  unfold JPost
  rw [if_pos e]
  exact ⟨_,_,hM,hF⟩
 obtain ⟨rx,hrx⟩ : ∃ r,r = root x:=⟨_,rfl⟩
 obtain ⟨ry,hry⟩ : ∃ r,r = root y:=⟨_,rfl⟩
 rw [<- hrx] at C1 fin fin2
 rw [<- hry] at C2 fin fin2
 rw [<- hrx,<- hry]
 clear hrx hry e0
 by_cases e : rx = ry
 ·have F2 := hid (fin2.out e)
  subst e
  have e1 : (rx == rx) = true:=by simp
  rw [e1]
  clear fin fin2
  go_enter Tryz.func102,Tryz.ntmps102
  go_wp2_with (first
   | (go_at_call 154;(with_reducible refine C1.out.mono ?_);rintro e W1 ⟨rfl,u1,k1,L1,m1,f1⟩;have C3:=hid (C2.out W1 L1 m1 f1);have HK1:=hid k1;clear u1 m1 f1 k1)
   | (go_at_call 154;(with_reducible refine C3.out.mono ?_);rintro e W2 ⟨rfl,u2,k2,L2,m2,f2⟩;have HJ:=hid (F2.out W2 L2 m2 f2);have HK2:=hid (HK1.out.trans k2);clear u2 m2 f2 k2))
  go_ret
  exact ⟨rfl,HJ.out,HK2.out⟩
 ·have F1 := hid (fun W L' => fin.out W L' e)
  have e1 : (rx == ry) = false:=by simp [e]
  rw [e1]
  clear fin fin2 e
  go_enter Tryz.func102,Tryz.ntmps102
  go_wp2_with (first
   | (go_at_call 154;(with_reducible refine C1.out.mono ?_);rintro e W1 ⟨rfl,u1,k1,L1,m1,f1⟩;have C3:=hid (C2.out W1 L1 m1 f1);have HU1:=hid u1;have HK1:=hid k1;clear u1 m1 f1 k1)
   | (go_at_call 154;(with_reducible refine C3.out.mono ?_);rintro e W2 ⟨rfl,u2,k2,L2,m2,f2⟩;obtain ⟨w3,hst,hJ,k3⟩:=F1.out W2 L2 HU1.out u2 m2 f2;have HK2:=hid ((HK1.out.trans k2).trans k3);have c2 : W2.cell? ⟨b + 2,2,none⟩ = some (.map (some (b + 1))):=blk_cell m2.box 2;have HJ:=hid hJ;clear u2 m2 f2 hJ k2 k3))
  go_ret
  exact ⟨rfl,HJ.out,HK2.out⟩
end
theorem nodup_le {α : Type} [BEq α] [LawfulBEq α] : ∀ (W L : List α),W.Nodup -> (∀ x∈W,x∈L) -> W.length <= L.length
 | [],L,_,_=>Nat.zero_le _
 | x :: W,L,hn,hs=>by
  obtain ⟨h1,h2⟩:=List.nodup_cons.1 hn
  have hx : x∈L:=hs x List.mem_cons_self
  have ih:=nodup_le W (L.erase x) h2 (fun y hy=>(List.mem_erase_of_ne (fun e=>h1 (by rw [<- e];exact hy))).2 (hs y (List.mem_cons_of_mem _ hy)))
  rw [List.length_erase_of_mem hx] at ih
  have : 0 < L.length:=List.length_pos_of_mem hx
  simp;omega
def Ow (os : List Ob) (x : Int) : Prop:=hpO os x ≠ none /\ U64 x
theorem ow_some {os : List Ob} {x : Int} (h : Ow os x) : ∃ k,findM os x = some k:=by
 cases e : findM os x with
 | none=>exact absurd (hp_none e) h.1
 | some k=>exact ⟨k,rfl⟩
theorem ow_in {os : List Ob} {x : Int} (hu : usedL os <= 4194304) (h : Ow os x) : x∈ptrsL os:=by
 obtain ⟨k,hk⟩:=ow_some h
 have hl:=(findM_lt hk).1
 refine List.mem_map.2 ⟨k,List.mem_range.2 hl,?_⟩
 exact find_same (wordR_rng _ _ _) h.2 (find_ptr hl (by omega)) hk
theorem ptrsL_len (os : List Ob) : (ptrsL os).length = os.length:=by simp [ptrsL]
theorem os_le (os : List Ob) : os.length <= usedL os:=by
 induction os with
 | nil=>exact Nat.zero_le _
 | cons x l ih=>simp only [usedL,List.length_cons];omega
theorem may_ow {os : List Ob} {x y : Int} (h : May (hpO os) x y) : hpO os x ≠ none /\ hpO os y ≠ none:=by
 obtain ⟨k,f,g,h1,h2,_⟩:=h
 rw [h1,h2];exact ⟨by simp,by simp⟩
theorem mayB_iff {os : List Ob} (ho : OsOk os) (x y : Int) : mayB os x y = true ↔ May (hpO os) x y:=by
 unfold mayB stM kindM sizeM May
 cases e1 : findM os x with
 | none =>
  simp only
  refine ⟨fun h=>?_,fun ⟨k,f,g,h1,_⟩=>by rw [hp_none e1] at h1;cases h1⟩
  exfalso
  revert h
  split <;> simp
 | some i =>
  have hki:=ho.kd _ (getD_in_os (findM_lt e1).1)
  cases e2 : findM os y with
  | none =>
   simp only
   refine ⟨fun h=>?_,fun ⟨k,f,g,_,h2,_⟩=>by rw [hp_none e2] at h2;cases h2⟩
   exfalso
   rw [if_neg (by omega)] at h
   revert h;simp
  | some k =>
   simp only [Bool.or_eq_true,Bool.and_eq_true,decide_eq_true_eq]
   rw [hp_some e1,hp_some e2]
   constructor
   ·intro h
    by_cases e : (os.getD i default).kind = (os.getD k default).kind
    ·rw [if_pos e] at h
     refine ⟨_,_,_,rfl,by rw [e],?_⟩
     rcases h with h | h
     ·exact .inr ⟨h.1,by have:=h.2;omega⟩
     ·exact .inl h
    ·rw [if_neg e] at h;omega
   ·rintro ⟨kd, f, g, h1, h2, h3⟩
    injection h1 with h1
    injection h1 with a1 a2
    injection h2 with h2
    injection h2 with b1 b2
    subst a1 a2 b2
    rw [if_pos b1.symm]
    rcases h3 with h3 | ⟨h3,h4⟩
    ·exact .inr h3
    ·exact .inl ⟨h3,by omega⟩
structure US where
 root : Int -> Int
 d : Int -> Nat
 L : Int -> Option Int
 q : List Int
 hq : List (Int × Int)
 op : List (Int × Int)
 G : List (Int × Int)
 vO : Value
structure MG (os : List Ob) (a0 b0 : Int) (cur : Int × Int -> Prop) (M : Nat) (S : US) : Prop where
 uf : UF (hpO os) S.root S.G
 fo : FO (hpO os) S.L S.root S.d
 hd : ∀ p∈S.hq,S.root p.1 = S.root p.2
 ho : ∀ p∈S.hq,Ow os p.1 /\ Ow os p.2
 hn : S.hq.Nodup
 opm : ∀ p∈S.op,May (hpO os) p.1 p.2 /\ U64 p.1 /\ U64 p.2 /\ p.1 ≠ p.2
 dn : ∀ p∈S.G,p∈S.op \/ cur p \/ Done (hpO os) S.root p.1 p.2
 al : Alike (hpO os) a0 b0 -> ∀ p∈S.op,Alike (hpO os) p.1 p.2
 qo : ∀ z∈S.q,Ow os z
 qn : S.q.Nodup
 me : 2 * leads (ptrsL os) S.root + S.op.length <= M
section
variable {os : List Ob} {a0 b0 : Int} {cur : Int × Int -> Prop} {M : Nat} {S : US}
theorem MG.qlen (h : MG os a0 b0 cur M S) (hu : usedL os <= 4194304) : S.q.length <= 4194304:=by
 have:=nodup_le S.q (ptrsL os) h.qn (fun x hx=>ow_in hu (h.qo x hx))
 rw [ptrsL_len] at this
 have:=os_le os
 omega
theorem MG.hlen (h : MG os a0 b0 cur M S) (hu : usedL os <= 4194304) : S.hq.length <= 4194304 * 4194304:=by
 have h1:=nodup_le S.hq ((ptrsL os).flatMap (fun a=>(ptrsL os).map (fun b=>(a,b)))) h.hn (fun p hp=>by
  obtain ⟨h1,h2⟩:=h.ho p hp
  exact List.mem_flatMap.2 ⟨p.1,ow_in hu h1,List.mem_map.2 ⟨p.2,ow_in hu h2,rfl⟩⟩)
 have h2 : ((ptrsL os).flatMap (fun a=>(ptrsL os).map (fun b=>(a,b)))).length = os.length * os.length:=by
  rw [List.length_flatMap]
  have : (ptrsL os).map (fun a=>((ptrsL os).map (fun b=>(a,b))).length) = List.replicate os.length os.length:=by
   apply List.ext_getElem?
   intro i
   rw [List.getElem?_map,List.getElem?_replicate]
   by_cases hi : i < os.length
   ·rw [if_pos hi, List.getElem?_eq_getElem (by rw [ptrsL_len]; exact hi)]
    simp [ptrsL_len]
   ·rw [if_neg hi,List.getElem?_eq_none (by rw [ptrsL_len];omega)];rfl
  rw [this,List.sum_replicate_nat]
 have h3:=os_le os
 have h4 : os.length * os.length <= 4194304 * 4194304:=Nat.mul_le_mul (by omega) (by omega)
 omega
theorem MG.start (os : List Ob) (a0 b0 : Int) : MG os a0 b0 (fun _=>False) (2 * os.length) ⟨id,fun _=>0,fun _=>none,[],[],[],[],.slice none 0 0⟩:=by
 refine ⟨UF.start _,⟨fun x _=>rfl,fun x n h=>(by cases h)⟩,fun p hp=>(by cases hp),fun p hp=>(by cases hp),List.nodup_nil,fun p hp=>(by cases hp),fun p hp=>(by cases hp),fun _ p hp=>(by cases hp),fun p hp=>(by cases hp),List.nodup_nil,?_⟩
 have : leads (ptrsL os) id <= (ptrsL os).length:=List.length_filter_le _ _
 rw [ptrsL_len] at this
 show 2 * leads (ptrsL os) id + 0 <= _
 omega
theorem MG.same (h : MG os a0 b0 cur M S) {x y : Int} {L' : Int -> Option Int} {d' : Int -> Nat} (hm : May (hpO os) x y) (hx : U64 x) (hy : U64 y) (hnm : (x,y) ∉ S.hq) (e : S.root x = S.root y) (hF : FO (hpO os) L' S.root d') : MG os a0 b0 cur M ⟨S.root,d',L',S.q,S.hq ++ [(x,y)],S.op,S.G,S.vO⟩:=by
 have hw:=may_ow hm
 refine ⟨h.uf,hF,fun p hp=>?_,fun p hp=>?_,?_,h.opm,h.dn,h.al,h.qo,h.qn,h.me⟩
 ·rcases List.mem_append.1 hp with hp | hp
  ·exact h.hd p hp
  ·obtain rfl:=List.mem_singleton.1 hp;exact e
 ·rcases List.mem_append.1 hp with hp | hp
  ·exact h.ho p hp
  ·obtain rfl:=List.mem_singleton.1 hp;exact ⟨⟨hw.1,hx⟩,hw.2,hy⟩
 ·refine List.nodup_append.2 ⟨h.hn, by simp, fun a ha b hb => ?_⟩
  obtain rfl:=List.mem_singleton.1 hb
  intro e';subst e';exact hnm ha
theorem MG.join (h : MG os a0 b0 cur M S) {x y : Int} {L' : Int -> Option Int} {d' : Int -> Nat} (vO' : Value) (hu : usedL os <= 4194304) (hm : May (hpO os) x y) (hx : U64 x) (hy : U64 y) (hry : U64 (S.root y)) (hnm : (x,y) ∉ S.hq) (e : S.root x ≠ S.root y) (hnq : S.root y ∉ S.q) (hF : FO (hpO os) L' (joined S.root (S.root x) (S.root y)) d') (ha : Alike (hpO os) a0 b0 -> Alike (hpO os) x y) :
  MG os a0 b0 cur M ⟨joined S.root (S.root x) (S.root y),d',L',S.q ++ [S.root y],S.hq ++ [(x,y)],S.op ++ [(x,y)],(x,y) :: S.G,vO'⟩:=by
 have hw:=may_ow hm
 have hrel:=(h.uf.join hw.1 hw.2 e)
 refine ⟨hrel,hF,fun p hp=>?_,fun p hp=>?_,?_,fun p hp=>?_,fun p hp=>?_,fun ha0 p hp=>?_,fun z hz=>?_,?_,?_⟩
 ·rcases List.mem_append.1 hp with hp | hp
  ·exact joined_mono _ _ (h.hd p hp)
  ·obtain rfl:=List.mem_singleton.1 hp;exact hrel.rel (x,y) List.mem_cons_self
 ·rcases List.mem_append.1 hp with hp | hp
  ·exact h.ho p hp
  ·obtain rfl:=List.mem_singleton.1 hp;exact ⟨⟨hw.1,hx⟩,hw.2,hy⟩
 ·refine List.nodup_append.2 ⟨h.hn, by simp, fun a ha b hb => ?_⟩
  obtain rfl:=List.mem_singleton.1 hb
  intro e';subst e';exact hnm ha
 ·rcases List.mem_append.1 hp with hp | hp
  ·exact h.opm p hp
  ·obtain rfl:=List.mem_singleton.1 hp;exact ⟨hm,hx,hy,fun e'=>e (congrArg S.root e')⟩
 ·rcases List.mem_cons.1 hp with rfl | hp
  ·exact .inl (List.mem_append_right _ (List.mem_singleton.2 rfl))
  ·rcases h.dn p hp with h1 | h1 | h1
   ·exact .inl (List.mem_append_left _ h1)
   ·exact .inr (.inl h1)
   ·exact .inr (.inr (h1.mono (fun a b=>joined_mono a b)))
 ·rcases List.mem_append.1 hp with hp | hp
  ·exact h.al ha0 p hp
  ·obtain rfl:=List.mem_singleton.1 hp;exact ha ha0
 ·rcases List.mem_append.1 hz with hz | hz
  ·exact h.qo z hz
  ·obtain rfl:=List.mem_singleton.1 hz;exact ⟨h.uf.obj y hw.2,hry⟩
 ·refine List.nodup_append.2 ⟨h.qn, by simp, fun a ha b hb => ?_⟩
  obtain rfl:=List.mem_singleton.1 hb
  intro e';subst e';exact hnq ha
 ·have h1 := h.uf.less (P := ptrsL os) (a := x) (b := y) (ow_in hu ⟨h.uf.obj y hw.2, hry⟩) e
  have h2:=h.me
  show 2 * leads (ptrsL os) (joined S.root (S.root x) (S.root y)) + (S.op ++ [(x,y)]).length <= M
  rw [List.length_append,List.length_singleton]
  omega
theorem MG.take {p : Int × Int} {op' : List (Int × Int)} (h : MG os a0 b0 (fun _=>False) M S) (hop : S.op = op' ++ [p]) (vO' : Value) : MG os a0 b0 (fun r=>r = p) (M - 1) ⟨S.root,S.d,S.L,S.q,S.hq,op',S.G,vO'⟩:=by
 have hsub : ∀ r∈op',r∈S.op:=fun r hr=>by rw [hop];exact List.mem_append_left _ hr
 refine ⟨h.uf,h.fo,h.hd,h.ho,h.hn,fun r hr=>h.opm r (hsub r hr),fun r hr=>?_,fun ha r hr=>h.al ha r (hsub r hr),h.qo,h.qn,?_⟩
 ·rcases h.dn r hr with h1 | h1 | h1
  ·rw [hop] at h1
   rcases List.mem_append.1 h1 with h1 | h1
   ·exact .inl h1
   ·exact .inr (.inl (List.mem_singleton.1 h1))
  ·exact absurd h1 id
  ·exact .inr (.inr h1)
 ·have := h.me
  rw [hop,List.length_append,List.length_singleton] at this
  show 2 * leads (ptrsL os) S.root + op'.length <= M - 1
  omega
theorem MG.done {p : Int × Int} (h : MG os a0 b0 (fun r=>r = p) M S) (hd : Done (hpO os) S.root p.1 p.2) : MG os a0 b0 (fun _=>False) M S :=
 ⟨h.uf,h.fo,h.hd,h.ho,h.hn,h.opm,fun r hr=>by
  rcases h.dn r hr with h1 | h1 | h1
  ·exact .inl h1
  ·subst h1;exact .inr (.inr hd)
  ·exact .inr (.inr h1),h.al,h.qo,h.qn,h.me⟩
theorem MG.alike (h : MG os a0 b0 (fun _=>False) M S) (he : S.op = []) {x y : Int} (hxy : S.root x = S.root y) : Alike (hpO os) x y:=by
 refine h.uf.alike (fun p hp=>?_) hxy
 rcases h.dn p hp with h1 | h1 | h1
 ·rw [he] at h1;cases h1
 ·exact absurd h1 id
 ·exact h1
end
theorem own_lit {w : World} {g n k : Nat} {e : TypeId} {cs : Array Value} {xs : List Value} (h : w.heap[g]? = some (.cells cs e (0,0))) (hx : cs.toList = xs) (hk : xs.length = n * k) (hn : n <= 1000) (base : Nat) (hb : base <= g) : w.ownsRow base e k (.slice (some ⟨g,0,none⟩) n n) n xs:=by
 refine ⟨hk,.inr ⟨g,n,cs,rfl,hb,h,Nat.le_refl _,by unfold maxLen;omega,?_,?_⟩⟩
 ·rw [<- Array.length_toList,hx,hk]
 ·rw [hx,List.take_of_length_le (by omega)]
theorem lit_ints {w : World} {g n : Nat} {cs : Array Value} {l : List Int} (h : w.heap[g]? = some (.cells cs 3 (0,0))) (hx : cs.toList = cz l) (hl : l.length = n) (hn : n <= 1000) (hb : ∀ z∈l,I64 z) : IRow w (some ⟨g,0,none⟩) n n l:=by
 subst hl
 obtain ⟨ao,cap,e,hr⟩:=irow_of (own_lit h hx (by rw [cz_length];omega) hn 0 (Nat.zero_le _)) hb
 cases e
 exact hr
def allocs (w : World) : List Obj -> World
 | []=>w
 | o :: os=>allocs (w.alloc o) os
theorem allocs_below : ∀ (os : List Obj) (w : World),Below w.heap.size w (allocs w os)
 | [],w=>Below.refl _ _
 | o :: os,w=>Bt (Ba w o) (allocs_below os (w.alloc o))
theorem allocs_get : ∀ {os : List Obj} {w : World} {i : Nat} {o : Obj},os[i]? = some o -> (allocs w os).heap[w.heap.size + i]? = some o
 | [],_,_,_,h=>by simp at h
 | o' :: os,w,0,o,h=>by
  have e : o' = o:=by simpa using h
  subst e
  exact ((allocs_below os (w.alloc o')).block _ (by rw [size_alloc];omega)).trans (heap_alloc_new _ _)
 | o' :: os,w,i + 1,o,h=>by
  have:=allocs_get (w:=w.alloc o') (os:=os) (i:=i) (o:=o) (by simpa using h)
  rw [size_alloc] at this
  rw [show w.heap.size + (i + 1) = w.heap.size + 1 + i by omega];exact this
theorem lit_nrow {w : World} {g n : Nat} {cs : Array Value} {l : List (Nd × (Option Addr × Nat × Nat))} (h : w.heap[g]? = some (.cells cs 54 (0,0))) (hx : cs.toList = ncs l) (hl : l.length = n) (hn : n <= 1000) (hk : ∀ x∈l,IRow w x.2.1 x.2.2.1 x.2.2.2 x.1.kids) (ho : ∀ x∈l,NdOk x.1) :
  NRow w (some ⟨g,0,none⟩) n n (l.map Prod.fst):=by
 subst hl
 refine ⟨by simp,Nat.le_refl _,by unfold maxLen;omega,fun e=>(by cases e),fun d hd=>?_,.inr ⟨g,0,rfl,(Array.getElem?_eq_some_iff.1 h).1,fun i hi=>?_⟩⟩
 ·obtain ⟨x, hx, rfl⟩ := List.mem_map.1 hd
  exact ho x hx
 ·rw [List.length_map] at hi
  have e : (l.map Prod.fst).getD i default = (l.getD i (default,none,0,0)).1:=by
   rw [List.getD_eq_getElem?_getD,List.getElem?_map,List.getD_eq_getElem?_getD,List.getElem?_eq_getElem hi];rfl
  rw [e]
  have hm : l.getD i (default,none,0,0)∈l:=by rw [List.getD_eq_getElem?_getD,List.getElem?_eq_getElem hi];exact List.getElem_mem hi
  have hc : ∀ j,j < 4 -> w.cell? ⟨g,0 + i * 4 + j,none⟩ = (nc (l.getD i (default,none,0,0)))[j]?:=fun j hj=>by
   rw [blk_cell h,Nat.zero_add,<- ncs_get hi hj,<- hx,Array.getElem?_toList]
  exact ⟨hc 0 (by omega),hc 1 (by omega),hc 2 (by omega),_,_,_,hc 3 (by omega),hk _ hm⟩
section
variable {P : Program} {w : World} {ops : Array Oper} {o : Oper} {a : Act} {K : Act -> World -> Prop} {Q : Exit -> Act -> World -> Prop} {E : Prop}
theorem stepInts (dst : Option Nat) (hdst : o.dst = dst) (hgd : o.guard = none) (s x : Operand) (t : TypeId) (ho : o.op = .call { callee:=.builtin .append,args:=#[s,x],argTypes:=#[t,t] })
  (base : Nat) (e : TypeId) (ht : P.underlying t = some (.slice e)) (hi : (P.info? e).map (fun i=>(i.zero,i.size,i.bytes)) = some (some (.int .i64 0),1,8))
  (v : Value) (n : Nat) (l : List Int) (hs : a.eval s = v) (hown : w.ownsRow base e 1 v n (cz l))
  (ao : Option Addr) (m c : Nat) (r : List Int) (hx : a.eval x = .slice ao m c) (hr : IRow w ao m c r) (hsm : n + m <= 1000000) (hbase : base <= w.heap.size)
  (h : ∀ v' w',w'.ownsRow base e 1 v' (n + m) (cz (l ++ r)) -> w.grownBy w' v.ownBlock -> K (a.put dst v') w') :
  if Region.wanted o (yielded ops a.tmps) = true then Oper.wp P o a w K Q else E:=by
 subst hdst
 have hw : Region.wanted o (yielded ops a.tmps) = true:=by simp [Region.wanted,hgd]
 rw [if_pos hw]
 obtain ⟨i0,hi0,hz0,hz1,hz2⟩:=info_parts hi
 cases ao with
 | none =>
  have hc:=hr.nil_ rfl
  subst hc
  have hm : m = 0:=by have:=hr.fits;omega
  subst hm
  have hl2 : r = []:=List.length_eq_zero_iff.1 hr.len
  subst hl2
  have hrun:=run_append_owned_none (P:=P) (w:=w) base t o.type e i0 1 ht hi0 v n (cz l) hown
  unfold Oper.wp
  simp [execOp,ho,resolve,invoke,builtin,hs,hx,hrun,Result.andThen]
  exact h v w (by simpa using hown) ⟨rfl,rfl,rfl,Nat.le_refl _,fun _ _ _=>rfl⟩
 | some ad =>
  refine wp_append_own w s x t ho base e i0 (.int .i64 0) 1 8 ht hi0 hz0 hz1 hz2 rfl (by decide) v n (cz l) hs hown ad m c (cz r) hx (by rw [cz_length,hr.len];omega) ?_ ?_ (by unfold maxLen;omega) (by omega) hbase ?_
  ·intro j u hj
   have hjl : j < r.length:=by
    have:=(List.getElem?_eq_some_iff.1 hj).1
    rwa [cz_length] at this
   rw [cz_get hjl] at hj
   cases hj
   obtain ⟨b,o',hao,_,hc⟩:=hr.some (by have:=hr.len;omega)
   cases hao
   have:=hc j (by have:=hr.len;omega)
   unfold Addr.add
   by_cases hj0 : j = 0
   ·subst hj0;simpa using this
   ·rw [if_neg hj0];exact this
  ·intro u hu
   unfold cz at hu
   obtain ⟨z,_,rfl⟩:=List.mem_map.1 hu
   rfl
  ·intro v' w' h1 h2 _
   rw [<- cz_append] at h1
   exact h v' w' h1 h2
end
theorem or_u64_0 (d : Nat) (h : d < 4294967296) : bits .or .u64 0 (d : Int) = ((d : Nat) : Int):=by
 have:=u64_or_nat 0 d (by omega) (by omega)
 rw [Nat.zero_or] at this;exact this
theorem or_u64_32 (a d : Nat) (h1 : a < 4294967296) (h2 : d < 4294967296) : bits .or .u64 (a : Int) ((d : Int) * 4294967296) = ((a + 4294967296 * d : Nat) : Int):=by
 rw [show ((d : Int) * 4294967296) = ((d * 4294967296 : Nat) : Int) by omega,u64_or_nat _ _ (by omega) (by omega),Nat.or_comm,nat_join 32 _ _ (by omega) (by omega)];omega
def fits (z : Int) : Bool:=decide (-9223372036854775808 <= z /\ z <= 9223372036854775807)
theorem long_not_fits {s : Bool} {l : List Nat} (hg : goodB s l = true) (h : 2 < l.length) : fits (sgn s (val B32 l)) = false:=by
 have h1:=(goodB_tr hg).pos (B:=B32) (by decide) (by intro e;simp [e] at h)
 have h2 : B32 ^ 2 <= B32 ^ (l.length - 1):=Nat.pow_le_pow_right (by decide) (by omega)
 have h3 : B32 ^ 2 = 18446744073709551616:=by decide
 unfold fits sgn
 cases s <;> simp <;> omega
theorem short_lt {l : List Nat} (hd : Dg B32 l) (h : l.length <= 2) : val B32 l <= 18446744073709551615:=by
 have h1:=val_lt hd
 have h2 : B32 ^ l.length <= B32 ^ 2:=Nat.pow_le_pow_right (by decide) h
 have h3 : B32 ^ 2 = 18446744073709551616:=by decide
 omega
theorem wrap_neg (a : Nat) (h : a <= 9223372036854775808) : wrap64 (IntKind.u64.wrap (-(a : Int))) = -(a : Int):=by
 rw [IntKind.wrap_u64];unfold wrap64;omega
def ToPost (w : World) (z : Int) (e : Ending) (w' : World) : Prop:=∃ v,e = .returned (.tuple #[.int .i64 v,.bool (fits z)]) /\ (fits z = true -> v = z) /\ Below w.heap.size w w'
theorem toPost_no {w w' : World} {z v : Int} (hf : fits z = false) (hb : Below w.heap.size w w') : ToPost w z (.returned (.tuple #[.int .i64 v,.bool false])) w' :=
 ⟨v,by rw [hf],fun h=>(by rw [hf] at h;cases h),hb⟩
theorem toPost_yes {w w' : World} {z v : Int} (hf : fits z = true) (hv : v = z) (hb : Below w.heap.size w w') : ToPost w z (.returned (.tuple #[.int .i64 v,.bool true])) w' :=
 ⟨v,by rw [hf],fun _=>hv,hb⟩
set_option maxRecDepth 100000 in
set_option maxHeartbeats 1000000 in
theorem to_any (neg : Bool) (ao : Option Addr) (n cap : Nat) (l : List Nat) (w : World) (R : Row .u32 B32 w ao n cap l) (g : goodB neg l = true) :
  Calls Tryz.prog 181 #[.agg #[.bool neg,.slice ao n cap]] w (ToPost w (sgn neg (val B32 l))):=by
 have hmx:=R.most
 have hft:=R.fits
 unfold maxLen at hmx
 have HR:=hid R
 have G:=hid g
 have HL:=hid R.len
 clear R g
 go_enter Tryz.func181,Tryz.ntmps181
 go_wp2_with fail
 refine (good_any neg ao n cap l _ (HR.out.below (Ba _ _))).mono ?_
 rintro e w1 ⟨rfl,hb1⟩
 rw [G.out]
 have X:=hid ((Box.new 104 w neg ao n cap).on hb1)
 obtain ⟨c0,c1⟩:=X.out.c
 have HB:=hid (Bt (Ba w (.cells #[.bool neg,.slice ao n cap] 104)) hb1)
 have R1:=hid (HR.out.below HB.out)
 clear hb1 HR
 by_cases h2 : 2 < n
 ·have e2 : decide ((2 : Int) < n) = true := by simp; omega
  have HF:=hid (long_not_fits G.out (by rw [HL.out];exact h2))
  go_wp2
  go_ret2
  exact toPost_no HF.out HB.out
 ·have e2 : decide ((2 : Int) < n) = false := by simp; omega
  have hV:=short_lt R1.out.dg (by rw [HL.out];omega)
  obtain ⟨V,hVV⟩ : ∃ V,V = val B32 l:=⟨_,rfl⟩
  rw [<- hVV] at hV
  have HV:=hid hVV
  clear hVV
  go_wp2
  go_loop [4,5,6,19] (fun m _ _ i=>∃ k a : Nat,k <= n /\ i = .int .i64 k /\ m = .int .u64 a /\ Hid (a = val B32 (l.take k))) (fun _ _ _ i=>n - (intOf i).toNat)
  case atStart=>exact ⟨0,0,Nat.zero_le _,rfl,rfl,by simp [Hid,val]⟩
  case round =>
   obtain ⟨k,a,hk,rfl,rfl,ha⟩:=hrel
   by_cases hlt : k < n
   ·obtain ⟨b, o, rfl, hl, hc⟩ := R1.out.rd.some (by rw [HL.out]; omega)
    have hck:=hc k (by rw [HL.out];exact hlt)
    obtain ⟨d,hd⟩ : ∃ d,d = l.getD k 0:=⟨_,rfl⟩
    rw [<- hd] at hck
    have hdb : d < 4294967296:=by rw [hd];exact R1.out.dg.getD _ (by rw [HL.out];exact hlt)
    have HS : Hid (val B32 (l.take (k + 1)) = a + B32 ^ k * d):=by
     unfold Hid;rw [val_take_succ B32 l k (by rw [HL.out];exact hlt),<- ha.out,<- hd]
    clear hd hc
    have hk2 : k = 0 \/ k = 1:=by omega
    rcases hk2 with rfl | rfl
    ·obtain rfl : a = 0 := by have := ha.out; simpa [val] using this
     have hor:=or_u64_0 d hdb
     simp only [Nat.add_zero] at hck
     go_wp2
     exact ⟨⟨1,d,by omega,rfl,rfl,by unfold Hid;rw [HS.out];simp⟩,by simp [intOf];omega⟩
    ·have hab : a < 4294967296 := by
      have h1:=ha.out
      have h2:=val_lt (R1.out.dg.take 1)
      have h3 : B32 ^ (l.take 1).length <= B32 ^ 1:=Nat.pow_le_pow_right (by decide) (by rw [List.length_take];omega)
      have h4 : B32 ^ 1 = 4294967296:=by decide
      omega
     have hor:=or_u64_32 a d hab hdb
     obtain ⟨A,hA⟩ : ∃ A,A = a + 4294967296 * d:=⟨_,rfl⟩
     rw [<- hA] at hor
     have HA:=hid hA
     clear hA
     go_wp2
     exact ⟨⟨2,A,by omega,rfl,rfl,by unfold Hid;rw [HS.out,HA.out];simp [B32]⟩,by simp [intOf];omega⟩
   ·have haV : a = V := by rw [ha.out, HV.out, List.take_of_length_le (by rw [HL.out]; omega)]
    subst haV
    clear ha
    cases neg
    ·by_cases hf : a <= 9223372036854775807
     ·have HF : Hid (fits (sgn false a) = true) := by unfold Hid fits sgn; simp; omega
      have ec : decide ((a : Int) < 9223372036854775808) = true:=by rw [decide_eq_true_eq];omega
      go_wp2
      go_ret2
      rw [<- HV.out]
      exact toPost_yes HF.out (by simp [sgn]) HB.out
     ·have HF : Hid (fits (sgn false a) = false) := by unfold Hid fits sgn; simp; omega
      have ec : decide ((a : Int) < 9223372036854775808) = false:=by rw [decide_eq_false_iff_not];omega
      go_wp2
      go_ret2
      rw [<- HV.out]
      exact toPost_no HF.out HB.out
    ·by_cases hf : a <= 9223372036854775808
     ·have HF : Hid (fits (sgn true a) = true) := by unfold Hid fits sgn; simp; omega
      go_wp2
      go_ret2
      rw [<- HV.out]
      exact toPost_yes HF.out ((wrap_neg a hf).trans (by simp [sgn])) HB.out
     ·have HF : Hid (fits (sgn true a) = false) := by unfold Hid fits sgn; simp; omega
      go_wp2
      go_ret2
      rw [<- HV.out]
      exact toPost_no HF.out HB.out
theorem wrap_negneg (a : Nat) (h : a <= 9223372036854775808) : wrap64 (-(wrap64 (a : Int))) = -(a : Int):=by
 unfold wrap64;omega
set_option maxRecDepth 100000 in
set_option maxHeartbeats 1000000 in
theorem rto_any (neg : Bool) (ao : Option Addr) (n cap : Nat) (l : List Nat) (w : World) (R : Row .u32 B32 w ao n cap l) (g : goodB neg l = true) :
  Calls Tryz.prog 151 #[.agg #[.bool neg,.slice ao n cap]] w (ToPost w (sgn neg (val B32 l))):=by
 have hmx:=R.most
 have hft:=R.fits
 unfold maxLen at hmx
 have G:=hid g
 have HL:=hid R.len
 have HR:=hid R
 clear R g
 by_cases h2 : 2 < n
 ·have e2 : decide ((2 : Int) < n) = true := by simp; omega
  have HF:=hid (long_not_fits G.out (by rw [HL.out];exact h2))
  go_enter Tryz.func151,Tryz.ntmps151
  go_wp2
  go_ret2
  exact toPost_no HF.out (Ba _ _)
 ·have e2 : decide ((2 : Int) < n) = false := by simp; omega
  have hV:=short_lt HR.out.dg (by rw [HL.out];omega)
  obtain ⟨V,hVV⟩ : ∃ V,V = val B32 l:=⟨_,rfl⟩
  rw [<- hVV] at hV
  have HV:=hid hVV
  clear hVV
  go_enter Tryz.func151,Tryz.ntmps151
  go_wp2
  have X:=Box.new 104 w neg ao n cap
  have bW:=Ba w (.cells #[.bool neg,.slice ao n cap] 104)
  generalize hW : w.alloc (.cells #[.bool neg,.slice ao n cap] 104) = W at *
  have R1:=hid (HR.out.below bW)
  have HB:=hid bW
  obtain ⟨c0,c1⟩:=X.c
  clear hW bW X HR
  go_loop [4,5] (fun m i=>∃ k a : Nat,k <= n /\ i = .int .i64 k /\ m = .int .u64 a /\ Hid (a = val B32 (l.take k))) (fun _ i=>n - (intOf i).toNat)
  case atStart=>exact ⟨0,0,Nat.zero_le _,rfl,rfl,by simp [Hid,val]⟩
  case round =>
   obtain ⟨k,a,hk,rfl,rfl,ha⟩:=hrel
   by_cases hlt : k < n
   ·obtain ⟨b, o, rfl, hl, hc⟩ := R1.out.rd.some (by rw [HL.out]; omega)
    have hck:=hc k (by rw [HL.out];exact hlt)
    obtain ⟨d,hd⟩ : ∃ d,d = l.getD k 0:=⟨_,rfl⟩
    rw [<- hd] at hck
    have hdb : d < 4294967296:=by rw [hd];exact R1.out.dg.getD _ (by rw [HL.out];exact hlt)
    have HS : Hid (val B32 (l.take (k + 1)) = a + B32 ^ k * d):=by
     unfold Hid;rw [val_take_succ B32 l k (by rw [HL.out];exact hlt),<- ha.out,<- hd]
    clear hd hc
    have hk2 : k = 0 \/ k = 1:=by omega
    rcases hk2 with rfl | rfl
    ·obtain rfl : a = 0 := by have := ha.out; simpa [val] using this
     have hor:=or_u64_0 d hdb
     simp only [Nat.add_zero] at hck
     go_wp2
     go_round
     case rel=>exact ⟨1,d,by omega,rfl,rfl,by unfold Hid;rw [HS.out];simp⟩
     case measure=>simp [intOf];omega
    ·have hab : a < 4294967296 := by
      have h1:=ha.out
      have h2:=val_lt (R1.out.dg.take 1)
      have h3 : B32 ^ (l.take 1).length <= B32 ^ 1:=Nat.pow_le_pow_right (by decide) (by rw [List.length_take];omega)
      have h4 : B32 ^ 1 = 4294967296:=by decide
      omega
     have hor:=or_u64_32 a d hab hdb
     obtain ⟨A,hA⟩ : ∃ A,A = a + 4294967296 * d:=⟨_,rfl⟩
     rw [<- hA] at hor
     have HA:=hid hA
     clear hA
     go_wp2
     go_round
     case rel=>exact ⟨2,A,by omega,rfl,rfl,by unfold Hid;rw [HS.out,HA.out];simp [B32]⟩
     case measure=>simp [intOf];omega
   ·have haV : a = V := by rw [ha.out, HV.out, List.take_of_length_le (by rw [HL.out]; omega)]
    subst haV
    clear ha
    cases neg
    ·by_cases hf : a <= 9223372036854775807
     ·have HF : Hid (fits (sgn false a) = true) := by unfold Hid fits sgn; simp; omega
      have ec : decide ((9223372036854775808 : Int) <= a) = false:=by rw [decide_eq_false_iff_not];omega
      go_wp2
      go_ret2
      rw [<- HV.out]
      exact toPost_yes HF.out (by simp [sgn]) HB.out
     ·have HF : Hid (fits (sgn false a) = false) := by unfold Hid fits sgn; simp; omega
      have ec : decide ((9223372036854775808 : Int) <= a) = true:=by rw [decide_eq_true_eq];omega
      go_wp2
      go_ret2
      rw [<- HV.out]
      exact toPost_no HF.out HB.out
    ·by_cases hf : a <= 9223372036854775808
     ·have HF : Hid (fits (sgn true a) = true) := by unfold Hid fits sgn; simp; omega
      have ec : decide ((a : Int) <= 9223372036854775808) = true:=by rw [decide_eq_true_eq];omega
      go_wp2
      go_ret2
      rw [<- HV.out]
      exact toPost_yes HF.out ((wrap_negneg a hf).trans (by simp [sgn])) HB.out
     ·have HF : Hid (fits (sgn true a) = false) := by unfold Hid fits sgn; simp; omega
      have ec : decide ((a : Int) <= 9223372036854775808) = false:=by rw [decide_eq_false_iff_not];omega
      go_wp2
      go_ret2
      rw [<- HV.out]
      exact toPost_no HF.out HB.out
end Go.Proofs.YticimejfjjmikaaGreatDoor
