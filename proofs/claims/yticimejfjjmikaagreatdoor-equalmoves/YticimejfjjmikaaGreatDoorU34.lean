import Derived.Test.YticimejfjjmikaaGreatDoorU30
set_option linter.unusedVariables false
set_option linter.unusedSimpArgs false
set_option maxRecDepth 100000
namespace Go.Proofs.YticimejfjjmikaaGreatDoor
open Go.RowKit
section
variable {B : Nat} {v : Value} {N : Int} {F : Nat -> Prop} {os : List Ob} {l : List Bool} {ln : List Int}
theorem xr.cases {q k : Nat} (h : xr os q k) : (k < os.length /\ q = atO os k) \/ ∀ j,j < os.length -> q ≠ atO os j:=by
 by_cases e : ∃ j,j < os.length /\ q = atO os j
 ·obtain ⟨j, hj, e⟩ := e
  obtain ⟨rfl,_⟩:=h.yes hj e
  exact .inl ⟨hj,e⟩
 ·exact .inr (fun j hj e'=>e ⟨j,hj,e'⟩)
theorem Lens.step (L : Lens os l ln) {q k : Nat} (h : xr os q k) : ∃ k',xr os (q + 1) k' /\ ((toM os l k' : Nat) : Int) = (toM os l k : Nat) + ln.getD q 0:=by
 rcases h.cases with ⟨hk,e⟩ | hn
 ·refine ⟨k + 1, (h.yes hk e).2, ?_⟩
  rw [vu hk L.ll,e,L.yes k hk]
  split <;> omega
 ·refine ⟨k, h.no (fun ⟨j, hj, e⟩ => hn j hj e), ?_⟩
  rw [L.no q hn];omega
theorem zgq1 (L : Lens os l ln) {q k : Nat} (h : xr os q k) : toM os l k <= zc os :=
 Nat.le_trans (zcx L.ll h.1) (zky os k)
theorem zdx {w : World} {g : Nat} {ln : List Int} (h : w.heap[g]? = some (.cells (iz ln).toArray 3 (0,0))) {i : Nat} (hi : i < ln.length) : w.cell? ⟨g,i,none⟩ = some (.int .i64 (ln.getD i 0)):=by
 rw [za h]
 simp [iz,List.getElem?_map,List.getElem?_eq_getElem hi,List.getD_eq_getElem?_getD]
end
structure MV (b g us : Nat) (ln pl : List Int) (w : World) : Prop where
 bb : w.heap[b]? = some (.cells #[.slice (some ⟨g,0,none⟩) us us] 32 (0,0))
 bp : w.heap[b + 1]? = some (.cells (iz pl).toArray 3 (0,0))
 bq : w.heap[b + 2]? = some (.cells #[.slice (some ⟨b + 1,0,none⟩) us us] 32 (0,0))
 lg : w.heap[g]? = some (.cells (iz ln).toArray 3 (0,0))
structure Plc (os : List Ob) (l : List Bool) (pl : List Int) : Prop where
 len : pl.length = zc os
 yes : ∀ k,k < os.length -> pl.getD (atO os k) 0 = ((toM os l k : Nat) : Int)
section
variable {b g us : Nat} {ln pl : List Int} {w w' : World} {os : List Ob} {l : List Bool}
theorem MV.keep (h : MV b g us ln pl w) (h1 : ∀ k,k = b \/ k = b + 1 \/ k = b + 2 \/ k = g -> w'.heap[k]? = w.heap[k]?) : MV b g us ln pl w' :=
 ⟨(h1 b (by omega)).trans h.bb,(h1 _ (by omega)).trans h.bp,(h1 _ (by omega)).trans h.bq,(h1 g (by omega)).trans h.lg⟩
theorem MV.set (h : MV b g us ln pl w) (hg : g < b) (i : Nat) (z : Int) : MV b g us ln (pl.set i z) (w.setCell ⟨b + 1,i,none⟩ (.int .i64 z)):=by
 have hset : ∀ k,k ≠ b + 1 -> (w.setCell ⟨b + 1,i,none⟩ (.int .i64 z)).heap[k]? = w.heap[k]?:=fun k hne=>Below.heap_setCell _ _ _ _ hne
 refine ⟨(hset _ (by omega)).trans h.bb,?_,(hset _ (by omega)).trans h.bq,(hset _ (by omega)).trans h.lg⟩
 rw [zy (i:=i) h.bp]
 simp [iz,List.map_set]
theorem zzs {W1 W2 W3 : World} (hg : w.heap[g]? = some (.cells (iz ln).toArray 3 (0,0))) (h1 : W1 = w.alloc (.cells #[.slice (some ⟨g,0,none⟩) us us] 32)) (h2 : W2 = W1.alloc (.cells (madeCells #[.int .i64 0] us) 3)) (h3 : W3 = W2.alloc (.cells #[.slice (some ⟨w.heap.size + 1,0,none⟩) us us] 32)) :
  MV w.heap.size g us ln (List.replicate us 0) W3 /\ Below w.heap.size w W3:=by
 have hgl : g < w.heap.size:=(Array.getElem?_eq_some_iff.1 hg).1
 have s1 : W1.heap.size = w.heap.size + 1:=by rw [h1];simp
 have s2 : W2.heap.size = w.heap.size + 2:=by rw [h2];simp [s1]
 have b1 : Below w.heap.size w W1:=by rw [h1];exact Ba _ _
 have b2 : Below (w.heap.size + 1) W1 W2:=by rw [h2,<- s1];exact Ba _ _
 have b3 : Below (w.heap.size + 2) W2 W3:=by rw [h3,<- s2];exact Ba _ _
 have n1 : W1.heap[w.heap.size]? = some (.cells #[.slice (some ⟨g,0,none⟩) us us] 32 (0,0)):=by rw [h1];exact zd _ _ _
 have n2 : W2.heap[w.heap.size + 1]? = some (.cells (madeCells #[.int .i64 0] us) 3 (0,0)):=by rw [h2,<- s1];exact zd _ _ _
 have n3 : W3.heap[w.heap.size + 2]? = some (.cells #[.slice (some ⟨w.heap.size + 1,0,none⟩) us us] 32 (0,0)):=by rw [h3,<- s2];exact zd _ _ _
 have e : madeCells #[.int .i64 0] us = (iz (List.replicate us 0)).toArray:=by
  rw [<- Array.toArray_toList (xs:=madeCells #[.int .i64 0] us),toList_madeCells_one];simp [iz]
 rw [e] at n2
 have hb : Below w.heap.size w W3:=b1.trans ((b2.mono (by omega)).trans (b3.mono (by omega)))
 exact ⟨⟨((b3.block _ (by omega)).trans (b2.block _ (by omega))).trans n1,(b3.block _ (by omega)).trans n2,n3,(hb.block g hgl).trans hg⟩,hb⟩
theorem zdv1 {z : Int} (hz : U64 z) (hf : zr os z = none) : isR 2 z = false \/ ∃ a : Nat,isR 2 z = true /\ hasR 2 z = (a : Int) /\ ∀ k,k < os.length -> a ≠ atO os k:=by
 by_cases h2 : (ofR z).1 = 2
 ·right
  have h3:=zbf hz h2
  have hn : 0 <= (ofR z).2.1:=by unfold U64 at hz;omega
  refine ⟨(ofR z).2.1.toNat,by unfold isR;simp [h2],by unfold hasR;rw [if_pos h2];omega,fun k hk e=>?_⟩
  have:=zvj (os:=os) hk (Nat.zero_le k)
  unfold zr at hf
  rw [if_pos h2,show (ofR z).2.1 = ((atO os k : Nat) : Int) by omega,this] at hf
  cases hf
 ·left;unfold isR;simp [h2]
set_option maxHeartbeats 8000000 in
theorem zpx (L : Lens os l ln) (P : Plc os l pl) (hus : zc os <= 4194304) (z : Int) (hz : U64 z) (w : World) (h : MV b g (zc os) ln pl w) :
  Calls Tryz.prog 110 #[.int .u64 z,.pointer (some ⟨b,0,none⟩),.pointer (some ⟨b + 2,0,none⟩)] w fun e w'=>e = .returned (.int .u64 (zo os l z)) /\ w' = w:=by
 have CA:=hid (zpp z hz w)
 have cb : w.cell? ⟨b,0,none⟩ = some (.slice (some ⟨g,0,none⟩) (zc os) (zc os)):=za h.bb 0
 have cq : w.cell? ⟨b + 2,0,none⟩ = some (.slice (some ⟨b + 1,0,none⟩) (zc os) (zc os)):=za h.bq 0
 have hll:=L.len
 have hpl:=P.len
 cases hf : zr os z with
 | none =>
  have e0 : zo os l z = z:=by unfold zo;rw [hf]
  rw [e0]
  rcases zdv1 hz hf with h2 | ⟨a,h2,ha,hne⟩
  ·rw [h2] at CA
   obtain ⟨a,ha⟩ : ∃ a,a = hasR 2 z:=⟨_,rfl⟩
   rw [<- ha] at CA
   clear ha h L P hf e0 hll hpl
   go_enter Tryz.func110,Tryz.ntmps110
   go_wp2_with (go_at_call 106;(with_reducible refine CA.out.mono ?_);rintro e W1 ⟨rfl,hw1⟩;rw [hw1];clear hw1)
   go_ret
   exact ⟨rfl,rfl⟩
  ·rw [h2, ha] at CA
   have hln:=L.no a hne
   have cl : a < zc os -> w.cell? ⟨g,a,none⟩ = some (.int .i64 0):=fun hl=>by
    have:=zdx h.lg (i:=a) (by omega)
    rw [hln] at this;exact this
   obtain ⟨us,hu⟩ : ∃ x,x = zc os:=⟨_,rfl⟩
   rw [<- hu] at cb cq cl hus
   clear ha h L P hf e0 hll hpl hne hln hu
   by_cases hau : a < us
   ·have cl' := cl hau
    clear cl
    go_enter Tryz.func110,Tryz.ntmps110
    go_wp2_with (go_at_call 106;(with_reducible refine CA.out.mono ?_);rintro e W1 ⟨rfl,hw1⟩;rw [hw1];clear hw1)
    go_ret
    exact ⟨rfl,rfl⟩
   ·clear cl
    go_enter Tryz.func110,Tryz.ntmps110
    go_wp2_with (go_at_call 106;(with_reducible refine CA.out.mono ?_);rintro e W1 ⟨rfl,hw1⟩;rw [hw1];clear hw1)
    go_ret
    exact ⟨rfl,rfl⟩
 | some k =>
  have hk:=(yc hf).1
  have hlt:=kj hk
  have h2' : (ofR z).1 = 2:=by
   unfold zr at hf
   split at hf
   ·assumption
   ·cases hf
  have h1 : isR 2 z = true:=by unfold isR;simp [h2']
  have h2 : hasR 2 z = (atO os k : Nat):=by unfold hasR;rw [if_pos h2'];exact (yc hf).2.symm
  rw [h1,h2] at CA
  have cl:=zdx h.lg (i:=atO os k) (by omega)
  rw [L.yes k hk] at cl
  have cp:=zdx h.bp (i:=atO os k) (by omega)
  rw [P.yes k hk] at cp
  have htm:=zcx L.ll (i:=k) (by omega)
  have CP:=hid (zvt ((toM os l k : Nat) : Int) (by unfold Z64;omega) w)
  rw [show zm 2 ((toM os l k : Nat) : Int) 0 = true by unfold zm;simp;omega] at CP
  have e0 : zo os l z = if l.getD k false then zj 2 (toM os l k : Nat) 0 else z:=by unfold zo;rw [hf]
  rw [e0]
  obtain ⟨A,hA⟩ : ∃ x,x = atO os k:=⟨_,rfl⟩
  obtain ⟨m,hm⟩ : ∃ x,x = (os.getD k default).f.length:=⟨_,rfl⟩
  obtain ⟨T,hT⟩ : ∃ x,x = toM os l k:=⟨_,rfl⟩
  obtain ⟨us,hu⟩ : ∃ x,x = zc os:=⟨_,rfl⟩
  rw [<- hA] at CA cl cp hlt htm
  rw [<- hm] at cl hlt
  rw [<- hT] at cp CP htm ⊢
  rw [<- hu] at cb cq hus hlt
  obtain ⟨x,hx⟩ : ∃ x,x = zj 2 (T : Nat) 0:=⟨_,rfl⟩
  rw [<- hx] at CP ⊢
  cases hb : l.getD k false
  ·rw [hb] at cl
   have cl' : w.cell? ⟨g,A,none⟩ = some (.int .i64 0):=cl
   clear h L P hf hk hll hpl h2' h1 h2 hA hm hT hu e0 cl hb hx
   go_enter Tryz.func110,Tryz.ntmps110
   go_wp2_with (go_at_call 106;(with_reducible refine CA.out.mono ?_);rintro e W1 ⟨rfl,hw1⟩;rw [hw1];clear hw1)
   go_ret
   exact ⟨rfl,rfl⟩
  ·rw [hb] at cl
   have cl' : w.cell? ⟨g,A,none⟩ = some (.int .i64 (1 + (m : Int))):=by rw [cl];simp
   clear h L P hf hk hll hpl h2' h1 h2 hA hm hT hu e0 cl hb hx
   have hne : ((1 + (m : Int)) == 0) = false:=by simp;omega
   go_enter Tryz.func110,Tryz.ntmps110
   go_wp2_with (first
    | (go_at_call 106;(with_reducible refine CA.out.mono ?_);rintro e W1 ⟨rfl,hw1⟩;rw [hw1];clear hw1)
    | (go_at_call 111;(with_reducible refine CP.out.mono ?_);rintro e W1 ⟨rfl,hw1⟩;rw [hw1];clear hw1))
   go_ret
   exact ⟨rfl,rfl⟩
set_option maxHeartbeats 8000000 in
theorem zwd (L : Lens os l ln) (hus : zc os <= 4194304) (w : World) (hr : w.heap[g]? = some (.cells (iz ln).toArray 3 (0,0))) :
  Calls Tryz.prog 62 #[.slice (some ⟨g,0,none⟩) (zc os) (zc os)] w fun e w'=>∃ pl,e = .returned (.func (.func 110) #[] #[.pointer (some ⟨w.heap.size,0,none⟩),.pointer (some ⟨w.heap.size + 1 + 1,0,none⟩)]) /\ Plc os l pl /\ MV w.heap.size g (zc os) ln pl w' /\ Below w.heap.size w w':=by
 have hgl : g < w.heap.size:=(Array.getElem?_eq_some_iff.1 hr).1
 have HL:=hid L
 have HR:=hid hr
 obtain ⟨us,hu⟩ : ∃ x,x = zc os:=⟨_,rfl⟩
 rw [<- hu] at hus ⊢
 have HU:=hid hu
 have hmk:=fun wx=>run_make_row' (P:=Tryz.prog) 32 3 (.int .i64 0) 8 Tryz.underlying32 zao rfl .i64 .i64 us (by omega) (by omega) wx
 clear L hr hu
 go_enter Tryz.func62,Tryz.ntmps62
 go_wp2_with fail
 clear hmk
 have HST:=hid (zzs (us:=us) HR.out rfl rfl rfl)
 generalize ((w.alloc (.cells #[.slice (some ⟨g,0,none⟩) us us] 32)).alloc (.cells (madeCells #[.int .i64 0] us) 3)).alloc (.cells #[.slice (some ⟨w.heap.size + 1,0,none⟩) us us] 32) = WS at *
 obtain ⟨g2,hg2⟩ : ∃ g,g = w.heap.size + 1 + 1:=⟨_,rfl⟩
 rw [<- hg2]
 have HG2 : Hid (g2 = w.heap.size + 2):=hg2
 clear hg2
 go_loopw [4,12] (fun s i wr=>∃ q : Nat,q <= us /\ i = .int .i64 q /\ ∃ t : Nat,t <= us /\ s = .int .i64 t /\ Hid (∃ k,xr os q k /\ t = toM os l k) /\ Hid (∃ pl,pl.length = us /\ (∀ k,k < os.length -> atO os k < q -> pl.getD (atO os k) 0 = ((toM os l k : Nat) : Int)) /\ MV w.heap.size g us ln pl wr /\ Below w.heap.size w wr)) (fun _ i _=>us - (intOf i).toNat)
 case atStart=>exact ⟨0,Nat.zero_le _,rfl,0,Nat.zero_le _,rfl,⟨0,xr.zero os,(zes os _).symm⟩,_,List.length_replicate,fun k _ h=>by omega,HST.out⟩
 case round =>
  clear HST
  obtain ⟨q,hq,rfl,t,ht,rfl,hI,hJ⟩:=hrel
  obtain ⟨pl,hpl,hpy,hmv,hbw⟩:=hJ.out
  by_cases hlt : q < us
  ·obtain ⟨k, hA, htk⟩ := hI.out
   obtain ⟨k',hA',htk'⟩:=HL.out.step hA
   have hus':=zgq1 HL.out hA'
   have c1:=zdx hmv.lg (i:=q) (by rw [HL.out.len,<- HU.out];exact hlt)
   have c2 : wr.cell? ⟨g2,0,none⟩ = some (.slice (some ⟨w.heap.size + 1,0,none⟩) us us):=by rw [HG2.out];exact za hmv.bq 0
   have c3:=zdx hmv.bp (i:=q) (by omega)
   have f3:=zf hmv.bp q
   have hz:=HL.out.z q
   rw [<- HU.out] at hz hus'
   rw [<- htk] at htk'
   obtain ⟨x,hx⟩ : ∃ x,x = ln.getD q 0:=⟨_,rfl⟩
   obtain ⟨y,hy⟩ : ∃ x,x = pl.getD q 0:=⟨_,rfl⟩
   rw [<- hx] at c1 htk' hz
   rw [<- hy] at c3
   obtain ⟨n,rfl⟩ : ∃ n : Nat,x = (n : Int):=⟨x.toNat,by omega⟩
   have hn : t + n <= us:=by omega
   have HK : Hid (∃ k,xr os (q + 1) k /\ t + n = toM os l k):=⟨k',hA',by omega⟩
   have HN : Hid (∃ pl',pl'.length = us /\ (∀ k,k < os.length -> atO os k < q + 1 -> pl'.getD (atO os k) 0 = ((toM os l k : Nat) : Int)) /\ MV w.heap.size g us ln pl' (wr.setCell ⟨w.heap.size + 1,q,none⟩ (.int .i64 (t : Nat))) /\ Below w.heap.size w (wr.setCell ⟨w.heap.size + 1,q,none⟩ (.int .i64 (t : Nat)))):=by
    refine ⟨pl.set q (t : Nat),by rw [List.length_set];exact hpl,fun j hj hjq=>?_,hmv.set hgl q _,hbw.setCell (p:=⟨w.heap.size + 1,q,none⟩) (by show w.heap.size <= w.heap.size + 1;omega) _⟩
    rw [xd (by omega)]
    by_cases e : q = atO os j
    ·rw [if_pos e]
     obtain ⟨e2,_⟩:=hA.yes hj e
     rw [e2,htk]
    ·rw [if_neg e]
     exact hpy j hj (by omega)
   clear hI hJ hx hy htk' hA hA' htk hus' hz hpl hpy hmv hbw
   go_wp2_with fail
   exact ⟨⟨q + 1,by omega,by go_num,t + n,hn,by go_num,HK,HN⟩,by simp [intOf] <;> omega⟩
  ·obtain rfl : q = us := by omega
   have HP : Hid (Plc os l pl):=⟨hpl.trans HU.out,fun k hk=>hpy k hk (by rw [HU.out];have:=kj hk;omega)⟩
   have HM:=hid hmv
   have HB:=hid hbw
   clear hI hJ hpl hpy hmv hbw
   go_wp2_with fail
   go_ret
   exact ⟨pl,by rw [HG2.out];rfl,HP.out,HM.out,HB.out⟩
end
section
variable {B : Nat} {v : Value} {N : Int} {F : Nat -> Prop} {os : List Ob} {l : List Bool} {ln : List Int}
theorem zry {k : Nat} (ho : OsOk os) (hk : k < os.length) (hus : zc os <= 4194304) : zo os l ((zi os).getD (atO os k) 0) = zj 8 ((os.getD k default).f.length : Nat) (os.getD k default).kind:=by
 have hlt:=kj hk
 rw [zak hk]
 unfold zo
 have hh:=zix (ho.kd _ (yi hk)) (show (os.getD k default).f.length <= 1099511627776 by omega)
 have : zr os (zj 8 ((os.getD k default).f.length : Nat) (os.getD k default).kind) = none:=by
  unfold zr
  rw [hh,if_neg (by show ¬ ((8 : Int) = 2);decide)]
 rw [this]
theorem slid {k t : Nat} (ho : OsOk os) (hk : k < os.length) (hus : zc os <= 4194304) (hl : l.length = os.length) (hb : l.getD k false = true) (ht : t < 1 + (os.getD k default).f.length) :
  zo os l ((zi os).getD (atO os k + t) 0) = (zi (jc os l)).getD (toM os l k + t) 0:=by
 cases t with
 | zero=>rw [Nat.add_zero,Nat.add_zero,zry ho hk hus,zvn hk hl hb]
 | succ j =>
  have h1:=xb (j:=j) hk (by omega)
  have h2:=zrs (j:=j) hk hl hb (by omega)
  rw [show atO os k + (j + 1) = atO os k + 1 + j by omega,show toM os l k + (j + 1) = toM os l k + 1 + j by omega,h1,h2]
theorem Sld.obj_yes' {O ws : List Int} {i t A m : Nat} (h : i < os.length) (hl : l.length = os.length) (hb : l.getD i false = true) (ht : t = toM os l i) (hA : A = atO os i) (hm : m = 1 + (os.getD i default).f.length) (hs : Sld (zi (jc os l)) O (t + m) (A + m) ws) : Sld (zi (jc os l)) O (toM os l (i + 1)) (atO os (i + 1)) ws:=by
 subst ht hA hm
 rw [<- Nat.add_assoc,<- Nat.add_assoc] at hs
 exact Sld.obj_yes h hl hb hs
set_option maxHeartbeats 16000000 in
theorem zwe {g b1 b2 : Nat} (ho : OsOk os) (L : Lens os l ln) (w : World) (h : PH B v N (zi os) F w) (hB : B <= w.heap.size) (hr : w.heap[g]? = some (.cells (iz ln).toArray 3 (0,0))) (hg : ¬ F g)
  (hm : ∀ wx,Mod F w wx -> ∀ z,U64 z -> Calls Tryz.prog 110 #[.int .u64 z,.pointer (some ⟨b1,0,none⟩),.pointer (some ⟨b2,0,none⟩)] wx fun e w'=>e = .returned (.int .u64 (zo os l z)) /\ w' = wx) :
  Calls Tryz.prog 63 #[v,.slice (some ⟨g,0,none⟩) (zc os) (zc os),.func (.func 110) #[] #[.pointer (some ⟨b1,0,none⟩),.pointer (some ⟨b2,0,none⟩)]] w fun e w' =>
   e = .returned (.tuple #[]) /\ zda B v N F w (zi (jc os l)) w':=by
 have hus:=zaq h
 have hwl:=zh os
 have H:=hid h
 have HL:=hid L
 have HM:=hid hm
 have HRow : Hid (∀ wx,Mod F w wx -> wx.heap[g]? = some (.cells (iz ln).toArray 3 (0,0))):=fun wx hx=>(hx.block g (Array.getElem?_eq_some_iff.1 hr).1 hg).trans hr
 obtain ⟨gh,rfl⟩:=h.ptr
 have CP : Hid (∀ ws wx (i : Nat) z,PH B (.pointer (some ⟨gh,0,none⟩)) N ws F wx -> Mod F w wx -> i < ws.length -> U64 z -> Calls Tryz.prog 112 #[.pointer (some ⟨gh,0,none⟩),.int .i64 (i : Nat),.int .u64 z] wx fun e w'=>e = .returned (.tuple #[]) /\ PH B (.pointer (some ⟨gh,0,none⟩)) N (ws.set i z) F w' /\ Mod F w w'):=fun ws wx i z hp hx hi hz =>
  (zih1 hi hz wx hp).mono (fun e w' ⟨q1,q2,q3⟩=>⟨q1,q2,hx.trans q3 (fun _ _ h=>h)⟩)
 have CC : Hid (∀ ws wx (p : Nat),PH B (.pointer (some ⟨gh,0,none⟩)) N ws F wx -> Mod F w wx -> p <= ws.length -> Calls Tryz.prog 113 #[.pointer (some ⟨gh,0,none⟩),.int .i64 (p : Nat)] wx fun e w'=>e = .returned (.tuple #[]) /\ zda B (.pointer (some ⟨gh,0,none⟩)) N F w (ws.take p) w'):=fun ws wx p hp hx hpl=>by
  have hbd:=hp.bd
  have:=zzo (p : Int) (by unfold Z64;omega) wx hp (Nat.le_trans hB hx.size)
  rw [if_pos (by omega),Int.toNat_natCast] at this
  exact this.mono (fun e w' ⟨q1,F',q2,q3,q4⟩=>⟨q1,F',q2,fun b hb=>(q3 b hb).imp id (fun h=>Nat.le_trans hx.size h),hx.trans q4 (fun _ _ h=>h)⟩)
 have HCL : Hid ((zi (jc os l)).length = toM os l os.length /\ (zi (jc os l)).length <= (zi os).length):=⟨zpj L.ll,zdl1 L.ll⟩
 have HSL : Hid (∀ k t,k < os.length -> l.getD k false = true -> t < 1 + (os.getD k default).f.length -> zo os l ((zi os).getD (atO os k + t) 0) = (zi (jc os l)).getD (toM os l k + t) 0):=fun k t hk hb ht=>slid ho hk hus L.ll hb ht
 obtain ⟨us,hu⟩ : ∃ x,x = zc os:=⟨_,rfl⟩
 rw [<- hu] at hus hwl ⊢
 have HU:=hid hu
 clear h L hm hr hg hu
 go_enter Tryz.func63,Tryz.ntmps63
 go_wp2_with fail
 go_loopw [6,12] (fun s i wr=>∃ q : Nat,q <= us /\ i = .int .i64 q /\ ∃ t : Nat,t <= us /\ s = .int .i64 t /\ Hid (∃ k ws,xr os q k /\ t = toM os l k /\ Sld (zi (jc os l)) (zi os) (toM os l k) (atO os k) ws /\ PH B (.pointer (some ⟨gh,0,none⟩)) N ws F wr /\ Mod F w wr)) (fun _ i _=>us - (intOf i).toNat)
 case atStart =>
  refine ⟨0,Nat.zero_le _,rfl,0,Nat.zero_le _,rfl,0,zi os,xr.zero os,(zes os _).symm,?_,H.out,Mod.refl F w⟩
  rw [zes,show atO os 0 = 0 from rfl]
  exact Sld.start _ _
 case round =>
  clear H
  obtain ⟨q,hq,rfl,t,ht,rfl,hI⟩:=hrel
  obtain ⟨k,ws,hA,htk,hS,hP,hX⟩:=hI.out
  clear hI
  by_cases hlt : q < us
  ·have c1 := zdx (HRow.out wr hX) (i := q) (by rw [HL.out.len, <- HU.out]; exact hlt)
   by_cases hob : k < os.length /\ q = atO os k /\ l.getD k false = true
   ·obtain ⟨hk, hqk, hb⟩ := hob
    subst hqk
    have hlk:=kj hk
    rw [<- HU.out] at hlk
    rw [HL.out.yes k hk,if_pos hb] at c1
    have htm : t <= atO os k:=by rw [htk];exact zcx HL.out.ll (Nat.le_of_lt hk)
    have HA2:=hid (hA.yes hk rfl).2
    have HTS : Hid (toM os l (k + 1) = t + (1 + (os.getD k default).f.length)):=by unfold Hid;rw [vu hk HL.out.ll,hb,htk];rfl
    have HTK:=hid htk
    have HK:=hid hk
    have HBB:=hid hb
    have HS : Hid (∃ ws,Sld (zi (jc os l)) (zi os) (t + 0) (atO os k + 0) ws /\ PH B (.pointer (some ⟨gh,0,none⟩)) N ws F wr /\ Mod F w wr):=⟨ws,by rw [Nat.add_zero,Nat.add_zero,htk];exact hS,hP,hX⟩
    have HSW : Hid (∀ j,j < 1 + (os.getD k default).f.length -> zo os l ((zi os).getD (atO os k + j) 0) = (zi (jc os l)).getD (t + j) 0):=fun j hj=>by rw [htk];exact HSL.out k j hk hb hj
    obtain ⟨A,hAe⟩ : ∃ x,x = atO os k:=⟨_,rfl⟩
    obtain ⟨m,hme⟩ : ∃ x,x = 1 + (os.getD k default).f.length:=⟨_,rfl⟩
    rw [<- hAe] at c1 hlk hlt htm hq HA2 HS HSW ⊢
    rw [<- hme] at c1 HTS HSW
    have hlk' : A + m <= us:=by omega
    have HAe:=hid hAe
    have HME:=hid hme
    clear hA htk hS hP hX hk hb hAe hme hlk
    go_wp2_with fail
    go_loopw [6,9] (fun s i wy=>∃ j : Nat,j <= m /\ s = .int .i64 ((t : Int) + (j : Int)) /\ i = .int .i64 ((A : Int) + (j : Int)) /\ Hid (∃ ws,Sld (zi (jc os l)) (zi os) (t + j) (A + j) ws /\ PH B (.pointer (some ⟨gh,0,none⟩)) N ws F wy /\ Mod F w wy)) (fun _ i _=>m - (intOf i - (A : Int)).toNat)
    case atStart=>exact ⟨0,Nat.zero_le _,by simp,by simp,HS.out⟩
    case round =>
     clear HS c1
     obtain ⟨j,hj,rfl,rfl,hI⟩:=hrel
     obtain ⟨ws,hS,hP,hX⟩:=hI.out
     clear hI
     by_cases hlt4 : j < m
     ·have hlen := hS.len
      have hwd : ws.getD (A + j) 0 = (zi os).getD (A + j) 0:=hS.hi _ (Nat.le_refl _)
      have hu4 : U64 (ws.getD (A + j) 0):=hP.u _ (zq (by omega))
      have C1:=hid (zej (k:=A + j) (by omega) wr hP)
      have C2:=hid (HM.out wr hX _ hu4)
      have hmv : zo os l (ws.getD (A + j) 0) = (zi (jc os l)).getD (t + j) 0:=by rw [hwd];exact HSW.out j hlt4
      have hu5 : U64 (zo os l (ws.getD (A + j) 0)):=xi hu4
      have C3:=hid (CP.out ws wr (t + j) _ hP hX (by omega) hu5)
      have HSN:=hid (hS.put (z:=zo os l (ws.getD (A + j) 0)) (by omega) hmv)
      obtain ⟨x,hx⟩ : ∃ x,x = ws.getD (A + j) 0:=⟨_,rfl⟩
      rw [<- hx] at C1 C2 C3 HSN
      obtain ⟨y,hy⟩ : ∃ y,y = zo os l x:=⟨_,rfl⟩
      rw [<- hy] at C2 C3 HSN
      rw [show ((A + j : Nat) : Int) = (A : Int) + (j : Int) by omega] at C1
      rw [show ((t + j : Nat) : Int) = (t : Int) + (j : Int) by omega] at C3
      clear hS hP hX hlen hwd hu4 hmv hu5 hx hy
      go_wp2_with (first
       | (go_at_call 108;(with_reducible refine C1.out.mono ?_);rintro e W1 ⟨rfl,hw1⟩;rw [hw1];clear hw1)
       | (go_at_call 110;(with_reducible refine C2.out.mono ?_);rintro e W1 ⟨rfl,hw1⟩;rw [hw1];clear hw1)
       | (go_at_call 112;(with_reducible refine C3.out.mono ?_);rintro e W3 ⟨rfl,h3⟩;have H3:=hid h3;clear h3))
      exact ⟨⟨j + 1,by omega,by go_num,by go_num,_,HSN.out,H3.out⟩,by simp [intOf] <;> omega⟩
     ·obtain rfl : j = m := by omega
      have HN : Hid (∃ k' ws,xr os (A + 1) k' /\ t + j = toM os l k' /\ Sld (zi (jc os l)) (zi os) (toM os l k') (atO os k') ws /\ PH B (.pointer (some ⟨gh,0,none⟩)) N ws F wr /\ Mod F w wr):=by
       refine ⟨k + 1,ws,HA2.out,HTS.out.symm,hS.obj_yes' HK.out HL.out.ll HBB.out HTK.out HAe.out HME.out,hP,hX⟩
      clear hS hP hX
      go_wp2_with fail
      exact ⟨⟨A + 1,by omega,by go_num,t + j,by omega,by go_num,HN⟩,by simp [intOf] <;> omega⟩
   ·have hz : ln.getD q 0 = 0 := by
     rcases hA.cases with ⟨hk,e⟩ | hn
     ·rw [e,HL.out.yes k hk,if_neg (fun hb=>hob ⟨hk,e,hb⟩)]
     ·exact HL.out.no q hn
    rw [hz] at c1
    have HN : Hid (∃ k' ws,xr os (q + 1) k' /\ t = toM os l k' /\ Sld (zi (jc os l)) (zi os) (toM os l k') (atO os k') ws /\ PH B (.pointer (some ⟨gh,0,none⟩)) N ws F wr /\ Mod F w wr):=by
     rcases hA.cases with ⟨hk,e⟩ | hn
     ·have hb : l.getD k false = false := by
       cases hb : l.getD k false
       ·rfl
       ·exact absurd ⟨hk,e,hb⟩ hob
      refine ⟨k + 1,ws,(hA.yes hk e).2,?_,hS.obj_no hk HL.out.ll hb,hP,hX⟩
      rw [vu hk HL.out.ll,hb,htk];rfl
     ·exact ⟨k,ws,hA.no (fun ⟨j,hj,e⟩=>hn j hj e),htk,hS,hP,hX⟩
    clear hz hob hA htk hS hP hX
    go_wp2_with fail
    go_loopw [6,9] (fun s i wy=>s = .int .i64 (t : Nat) /\ i = .int .i64 (q : Nat) /\ Hid (wy = wr)) (fun _ _ _=>0)
    case atStart=>exact ⟨rfl,rfl,rfl⟩
    case round =>
     obtain ⟨rfl,rfl,hw⟩:=hrel
     have hw':=hw.out
     subst hw'
     go_wp2_with fail
     exact ⟨⟨q + 1,by omega,by go_num,t,ht,rfl,HN⟩,by simp [intOf] <;> omega⟩
  ·obtain rfl : q = us := by omega
   have hko : k = os.length:=by
    have:=HU.out
    rw [this] at hA
    exact hA.all
   have hle:=HCL.out
   have hlen:=hS.len
   have hcl : t = (zi (jc os l)).length:=by rw [hle.1,<- hko];exact htk
   have hfin : ws.take t = zi (jc os l):=by
    rw [hcl]
    rw [hko,<- hle.1] at hS
    exact hS.done hle.2
   have C1:=hid (CC.out ws wr t hP hX (by omega))
   rw [hfin] at C1
   clear hA htk hS hP hX hko hle hlen hcl hfin
   go_wp2_with (go_at_call 113;(with_reducible refine C1.out.mono ?_);rintro e W1 ⟨rfl,h1⟩;have H1:=hid h1;clear h1)
   go_end0
   exact ⟨rfl,H1.out⟩
end
section
variable {B : Nat} {v : Value} {N : Int} {F : Nat -> Prop} {os : List Ob}
theorem zdw1 {la lb : List Int} (hl : la.length = lb.length) (h : ∀ k,k < la.length -> la.getD k 0 = lb.getD k 0) : la = lb:=by
 apply List.ext_getElem hl
 intro i h1 h2
 have:=h i h1
 rw [List.getD_eq_getElem?_getD,List.getD_eq_getElem?_getD,List.getElem?_eq_getElem h1,List.getElem?_eq_getElem h2] at this
 simpa using this
theorem zwf {w : World} {g : Nat} {l : List Int} (h : w.heap[g]? = some (.cells (uz l).toArray 44 (0,0))) {i : Nat} (hi : i < l.length) : w.cell? ⟨g,i,none⟩ = some (.int .u64 (l.getD i 0)):=by
 rw [za h,List.getElem?_toArray,zei hi]
theorem zzt {w : World} {g n : Nat} {l : List Int} (h : w.heap[g]? = some (.cells (uz l).toArray 44 (0,0))) (hl : l.length = n) (hn : n <= 1000000) (hu : ∀ z∈l,U64 z) : URow w (some ⟨g,0,none⟩) n n l :=
 ⟨hl,Nat.le_refl _,by unfold maxLen;omega,fun e=>(by cases e),hu,.inr ⟨g,0,rfl,(Array.getElem?_eq_some_iff.1 h).1,fun i hi=>by rw [Nat.zero_add];exact zwf h hi⟩⟩
theorem zgr1 {w : World} {g i : Nat} {l : List Int} {z : Int} (h : w.heap[g]? = some (.cells (uz l).toArray 44 (0,0))) : (w.setCell ⟨g,i,none⟩ (.int .u64 z)).heap[g]? = some (.cells (uz (l.set i z)).toArray 44 (0,0)):=by
 rw [zy (i:=i) h]
 simp [uz,List.map_set]
theorem zdx1 {w : World} {n : Nat} : (w.alloc (.cells (madeCells #[.int .u64 0] n) 44)).heap[w.heap.size]? = some (.cells (uz (List.replicate n 0)).toArray 44 (0,0)):=by
 rw [zd]
 have e : madeCells #[.int .u64 0] n = (uz (List.replicate n 0)).toArray:=by
  rw [<- Array.toArray_toList (xs:=madeCells #[.int .u64 0] n),toList_madeCells_one];simp [uz]
 rw [e]
theorem zzu {l : List Bool} {ln pl : List Int} {b g : Nat} (ho : OsOk os) (w W2 : World) (h : PH B v N (zi os) F w) (hB : B <= w.heap.size) (hb : Below w.heap.size w W2) (L : Lens os l ln) (P : Plc os l pl) (hbw : w.heap.size <= b) (hgw : w.heap.size <= g) (V : MV b g (zc os) ln pl W2) :
  Calls Tryz.prog 63 #[v,.slice (some ⟨g,0,none⟩) (zc os) (zc os),.func (.func 110) #[] #[.pointer (some ⟨b,0,none⟩),.pointer (some ⟨b + 1 + 1,0,none⟩)]] W2 fun e w' =>
   e = .returned (.tuple #[]) /\ zda B v N F W2 (zi (jc os l)) w' /\ MV b g (zc os) ln pl w':=by
 have hF : ∀ k,F k -> k < w.heap.size:=fun k hk=>(h.ge k hk).2
 have hV : ∀ wx,Mod F W2 wx -> MV b g (zc os) ln pl wx:=fun wx hx=>V.keep (fun k hk=>hx.block k (by
  have h1:=(Array.getElem?_eq_some_iff.1 V.bb).1
  have h2:=(Array.getElem?_eq_some_iff.1 V.bp).1
  have h3:=(Array.getElem?_eq_some_iff.1 V.bq).1
  have h4:=(Array.getElem?_eq_some_iff.1 V.lg).1
  omega) (fun hk'=>by have:=hF k hk';omega))
 have hp2 : PH B v N (zi os) F W2:=h.keep (fun k hk=>hb.block k (hF k hk))
 refine (zwe ho L W2 hp2 (Nat.le_trans hB hb.size) V.lg (fun hk=>by have:=hF g hk;omega) (fun wx hx z hz=>zpx L P (zaq h) z hz wx (hV wx hx))).mono ?_
 rintro e w' ⟨h1,F',h2,h3,h4⟩
 exact ⟨h1,⟨F',h2,h3,h4⟩,hV w' h4⟩
set_option maxHeartbeats 16000000 in
theorem zln (ho : OsOk os) (ro : Option Addr) (nr cr : Nat) (rs : List Int) (w : World) (h : PH B v N (zi os) F w) (R : URow w ro nr cr rs) (hB : B <= w.heap.size) (ha : ∀ a,ro = some a -> ¬ F a.block) (hsm : nr <= 1000000) :
  Calls Tryz.prog 26 #[v,.slice ro nr cr] w fun e w'=>∃ ao cap,e = .returned (.slice ao nr cap) /\ URow w' ao nr cap (zvl os (lvL os rs) rs) /\ (∀ a,ao = some a -> w.heap.size <= a.block) /\ ∃ F',PH B v N (zi (jc os (lvL os rs))) F' w' /\ (∀ b,F' b -> F b \/ w.heap.size <= b) /\ (∀ a,ao = some a -> ¬ F' a.block) /\ Mod F w w':=by
 have hus:=zaq h
 have H:=hid h
 have HR:=hid R
 have HAR:=hid ha
 have hrl:=R.len
 have hrf:=R.fits
 have hrx:=R.most
 unfold maxLen at hrx
 have HRL:=hid hrl
 have CM:=hid (zzr ho ro nr cr rs w h R)
 have HFW : Hid (∀ b,F b -> b < w.heap.size):=fun b hb=>(h.ge b hb).2
 obtain ⟨gh,rfl⟩:=h.ptr
 clear h R ha hrl
 have CS : Hid (∀ (ln pl : List Int) (b g : Nat) (W2 : World),Below w.heap.size w W2 -> Lens os (lvL os rs) ln -> Plc os (lvL os rs) pl -> w.heap.size <= b -> w.heap.size <= g -> MV b g (zc os) ln pl W2 -> _):=fun ln pl b g W2 hb hL hP hbw hgw hV=>zzu ho w W2 H.out hB hb hL hP hbw hgw hV
 have CV : Hid (∀ (g : Nat) (ln : List Int) (wx : World),Lens os (lvL os rs) ln -> wx.heap[g]? = some (.cells (iz ln).toArray 3 (0,0)) -> _):=fun g ln wx hL hr=>zwd (l:=lvL os rs) hL hus wx hr
 obtain ⟨us,hu⟩ : ∃ x,x = zc os:=⟨_,rfl⟩
 rw [<- hu] at CM CV CS hus
 have HU:=hid hu
 clear hu
 have hmk:=fun wx=>run_make_row' (P:=Tryz.prog) 23 44 (.int .u64 0) 8 Tryz.underlying23 yn rfl .i64 .i64 nr (by omega) (by omega) wx
 go_enter Tryz.func26,Tryz.ntmps26
 go_wp2_with (first
  | (go_at_call 61;(with_reducible refine CM.out.mono ?_);rintro e W1 ⟨g,ln,rfl,hg,hL,hrow,b1⟩;have HL:=hid hL;have HG:=hid hg;have HRW:=hid hrow;have HB1:=hid b1;clear hg hL hrow b1)
  | (go_at_call 62;(with_reducible refine (CV.out g ln W1 HL.out HRW.out).mono ?_);rintro e W2 ⟨pl,rfl,hP,hV,b2⟩;have HP:=hid hP;have HV:=hid hV;have HB2:=hid (Bt HB1.out b2);clear hP hV b2)
  | (go_at_call 63;(with_reducible refine (CS.out ln pl W1.heap.size g W2 HB2.out HL.out HP.out HB1.out.size HG.out HV.out).mono ?_);rintro e W3 ⟨rfl,hPP,hV3⟩;have HPP:=hid hPP;have HV3:=hid hV3;clear hPP hV3))
 clear hmk CM CV CS
 obtain ⟨F',hp3,hf3,hm3⟩:=HPP.out
 have HP3:=hid hp3
 have HF3:=hid hf3
 have HM3:=hid hm3
 have HMW : Hid (Mod F w W3):=(Mod.of_below F HB2.out).trans hm3 (fun _ _ h=>h)
 have HRR : Hid (∀ wx,Below W3.heap.size W3 wx -> URow wx ro nr cr rs):=fun wx hb=>HR.out.keep (Nat.le_trans HMW.out.size hb.size) (fun hne a ha=>by
  rcases HR.out.rd with e | ⟨b,o,e,hlt,_⟩
  ·exact absurd e hne
  ·rw [ha] at e
   have e2 : a.block = b:=by cases e;rfl
   rw [e2]
   have hnf : ¬ F b:=by rw [<- e2];exact HAR.out a ha
   exact (hb.block b (Nat.lt_of_lt_of_le hlt HMW.out.size)).trans (HMW.out.block b hlt hnf))
 have CMV : Hid (∀ wx,Below W3.heap.size W3 wx -> ∀ z,U64 z -> Calls Tryz.prog 110 #[.int .u64 z,.pointer (some ⟨W1.heap.size,0,none⟩),.pointer (some ⟨W1.heap.size + 1 + 1,0,none⟩)] wx fun e w'=>e = .returned (.int .u64 (zo os (lvL os rs) z)) /\ w' = wx):=fun wx hb z hz=>by
  have hv:=HV3.out
  rw [HU.out] at hv
  refine zpx HL.out HP.out (by rw [<- HU.out];exact hus) z hz wx (hv.keep (fun k hk=>hb.block k ?_))
  have h1:=(Array.getElem?_eq_some_iff.1 hv.bb).1
  have h2:=(Array.getElem?_eq_some_iff.1 hv.bp).1
  have h3:=(Array.getElem?_eq_some_iff.1 hv.bq).1
  have h4:=(Array.getElem?_eq_some_iff.1 hv.lg).1
  omega
 have HSW:=hid HMW.out.size
 have HB2S:=hid HB2.out.size
 clear hp3 hf3 hm3 HPP HV HV3 HB2 HB1 HRW HL HP HG HM3
 have HST : Hid (∃ lo,lo.length = nr /\ (∀ i,i < 0 -> lo.getD i 0 = zo os (lvL os rs) (rs.getD i 0)) /\ (W3.alloc (.cells (madeCells #[.int .u64 0] nr) 44)).heap[W3.heap.size]? = some (.cells (uz lo).toArray 44 (0,0)) /\ Below W3.heap.size W3 (W3.alloc (.cells (madeCells #[.int .u64 0] nr) 44))):=⟨_,List.length_replicate,fun i hi=>by omega,zdx1,Ba _ _⟩
 go_loopw [24] (fun i wr=>∃ q : Nat,q <= nr /\ i = .int .i64 q /\ Hid (∃ lo,lo.length = nr /\ (∀ i,i < q -> lo.getD i 0 = zo os (lvL os rs) (rs.getD i 0)) /\ wr.heap[W3.heap.size]? = some (.cells (uz lo).toArray 44 (0,0)) /\ Below W3.heap.size W3 wr)) (fun i _=>nr - (intOf i).toNat)
 case atStart=>exact ⟨0,Nat.zero_le _,rfl,HST.out⟩
 case round =>
  clear HST
  obtain ⟨q,hq,rfl,hI⟩:=hrel
  obtain ⟨lo,hll,hlo,hrow,hbw⟩:=hI.out
  clear hI
  by_cases hlt : q < nr
  ·obtain ⟨bb, oo, rfl, hlb, hcc⟩ := (HRR.out wr hbw).some (by omega)
   have c1:=hcc q hlt
   have hzu:=HR.out.bd _ (zq (l:=rs) (i:=q) (by have:=HRL.out;omega))
   have C1:=hid (CMV.out wr hbw _ hzu)
   have c2:=zwf hrow (i:=q) (by omega)
   have f2:=zf hrow q
   have HN : Hid (∃ lo',lo'.length = nr /\ (∀ i,i < q + 1 -> lo'.getD i 0 = zo os (lvL os rs) (rs.getD i 0)) /\ (wr.setCell ⟨W3.heap.size,q,none⟩ (.int .u64 (zo os (lvL os rs) (rs.getD q 0)))).heap[W3.heap.size]? = some (.cells (uz lo').toArray 44 (0,0)) /\ Below W3.heap.size W3 (wr.setCell ⟨W3.heap.size,q,none⟩ (.int .u64 (zo os (lvL os rs) (rs.getD q 0))))):=by
    refine ⟨lo.set q (zo os (lvL os rs) (rs.getD q 0)),by rw [List.length_set];exact hll,fun i hi=>?_,zgr1 hrow,hbw.setCell (p:=⟨W3.heap.size,q,none⟩) (Nat.le_refl _) _⟩
    rw [xd (by omega)]
    by_cases e : q = i
    ·rw [if_pos e,e]
    ·rw [if_neg e];exact hlo i (by omega)
   obtain ⟨z,hz⟩ : ∃ z,z = rs.getD q 0:=⟨_,rfl⟩
   rw [<- hz] at c1 C1 HN
   obtain ⟨y,hy⟩ : ∃ z,z = lo.getD q 0:=⟨_,rfl⟩
   rw [<- hy] at c2
   obtain ⟨x,hx⟩ : ∃ y,y = zo os (lvL os rs) z:=⟨_,rfl⟩
   rw [<- hx] at C1 HN
   clear hcc hzu hll hlo hrow hbw hz hy hx
   go_wp2_with (go_at_call 110;(with_reducible refine C1.out.mono ?_);rintro e W4 ⟨rfl,hw1⟩;rw [hw1];clear hw1)
   exact ⟨⟨q + 1,by omega,by go_num,HN⟩,by simp [intOf] <;> omega⟩
  ·obtain rfl : q = nr := by omega
   have hfin : lo = zvl os (lvL os rs) rs:=by
    unfold zvl
    refine zdw1 (by rw [List.length_map,HRL.out];exact hll) (fun i hi=>?_)
    rw [hlo i (by omega),List.getD_eq_getElem?_getD (l:=rs.map _),List.getElem?_map,List.getD_eq_getElem?_getD,List.getElem?_eq_getElem (by have:=HRL.out;omega)]
    rfl
   have HUR : Hid (URow wr (some ⟨W3.heap.size,0,none⟩) q q (zvl os (lvL os rs) rs)):=by
    rw [hfin] at hrow hll
    refine zzt hrow hll hsm (fun z hz=>?_)
    unfold zvl at hz
    obtain ⟨z',hz',rfl⟩:=List.mem_map.1 hz
    exact xi (HR.out.bd z' hz')
   have HBW:=hid hbw
   clear hll hlo hrow hbw hfin
   go_wp2_with fail
   go_ret
   refine ⟨_,_,rfl,HUR.out,fun a ha=>by cases ha;exact HSW.out,F',HP3.out.keep (fun b hb=>HBW.out.block b (HP3.out.ge b hb).2),fun b hb=>(HF3.out b hb).imp id (fun h=>Nat.le_trans HB2S.out h),fun a ha hf=>?_,HMW.out.trans (Mod.of_below F HBW.out) (fun _ _ h=>h)⟩
   cases ha
   have:=(HP3.out.ge _ hf).2
   exact absurd this (Nat.lt_irrefl _)
end
end Go.Proofs.YticimejfjjmikaaGreatDoor
