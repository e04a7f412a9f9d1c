import Derived.Test.YticimejfjjmikaaGreatDoorSL34
import Derived.Test.YticimejfjjmikaaGreatDoorQ3
set_option linter.unusedVariables false
set_option linter.unusedSimpArgs false
set_option maxRecDepth 100000
namespace Go.Proofs.YticimejfjjmikaaGreatDoor
open Go.RowKit
def ShowD (D : Int -> Nd) (rts : List Int) (w : World) (e : Ending) (w' : World) : Prop :=
 ∃ a1 n1 c1 a2 n2 c2 W ns rs,e = .returned (GVal a1 n1 c1 a2 n2 c2) /\ Told D rts W ns rs /\ Fine ns rs 300001 /\ GIs w' a1 n1 c1 a2 n2 c2 (canonN ns rs).1 (canonN ns rs).2 /\ GKeep w.heap.size w' a1 n1 c1 a2 n2 c2 (canonN ns rs).1 (canonN ns rs).2 /\ Below w.heap.size w w'
section
variable {B : Nat} {v vn : Value} {N : Int} {os : List Ob} {nm : List ByteArray} {F : Nat -> Prop}
set_option maxHeartbeats 16000000 in
theorem sshow_gen {gh : Nat} {op : Option Addr} (D : Int -> Nd) (hok : ∀ x,okD (D x) = true) (ro : Option Addr) (nr cr : Nat) (rts : List Int) (w : World) (R : URow w ro nr cr rts) (L : List Int) (hL : ∀ x,Rch D rts x -> x∈L) (hl : L.length <= 2400) (hk : ∀ x∈L,(D x).kids.length <= 100 /\ (D x).text.size <= 2000)
  (hnr : nr <= 2400) (hT : TabsS w) (hN : ∀ (wr : World) (x : Int) (gs : Nat),x∈L -> U64 x -> Below w.heap.size w wr -> SB gs (.pointer (some ⟨gh,0,none⟩)) (.pointer op) wr -> Calls Tryz.prog 39 #[.pointer (some ⟨gs,0,none⟩),.int .u64 x] wr (OPost (D x) wr)) :
  Calls Tryz.prog 11 #[.pointer (some ⟨gh,0,none⟩),.pointer op,.slice ro nr cr] w (ShowD D rts w):=by
 have HR:=hid R
 have HL:=hid hL
 have HLL:=hid hl
 have HK:=hid hk
 have HOK:=hid hok
 have HND:=hid hN
 have HT:=hid hT
 have HRL:=hid R.len
 obtain ⟨gr,hgr⟩ : ∃ g,g = w.heap.size:=⟨_,rfl⟩
 have HGR:=hid hgr
 obtain ⟨W0,hW0⟩ : ∃ W,W = w.alloc (.cells #[.slice none 0 0,.slice none 0 0] 34):=⟨_,rfl⟩
 have hs0 : W0.heap.size = gr + 1:=by rw [hW0,size_alloc,hgr]
 have HS0:=hid hs0
 have hb0 : Below w.heap.size w W0:=by rw [hW0];exact Ba w _
 have HB0:=hid hb0
 have hy0 : W0.heap[gr]? = some (.cells #[.slice none 0 0,.slice none 0 0] 34 (0,0)):=by rw [hW0,hgr];exact blk_new _ _ _
 have HY0:=hid hy0
 obtain ⟨W2,hW2⟩ : ∃ W,W = (W0.alloc (.map #[] 0)).alloc (.cells #[.pointer (some ⟨gh,0,none⟩),.pointer op,.slice none 0 0,.map (some (gr + 1))] 83):=⟨_,rfl⟩
 have hb2 : Below (gr + 1) W0 W2:=by rw [hW2,<- hs0];exact Bt (Ba W0 _) (Ba _ _)
 have HSH : Hid (SH (gr + 1) W0 (.pointer (some ⟨gh,0,none⟩)) (.pointer op) (.slice none 0 0) [] [] W2):=by
  have hx:=blk_new (W0.alloc (.map #[] 0)) #[.pointer (some ⟨gh,0,none⟩),.pointer op,.slice none 0 0,.map (some (gr + 1))] 83
  rw [size_alloc,<- hW2,hs0] at hx
  have hm:=MapW.made W0
  rw [hs0] at hm
  refine ⟨hb2,hx,hm.frame ?_,World.ownsRow_nil _ _ _ _⟩
  rw [hW2]
  exact (Ba (W0.alloc (.map #[] 0)) _).block _ (by rw [size_alloc,hs0];omega)
 have HBX : Hid (∀ wx,Below (gr + 1) W0 wx -> Below w.heap.size w wx):=fun wx hb=>HB0.out.trans (hb.mono (by have:=HGR.out;omega))
 have CP0 : Hid (Calls Tryz.prog 38 #[.pointer (some ⟨gr + 1 + 1,0,none⟩),.slice ro nr cr] W2 (PLPost (gr + 1) W0 (.pointer (some ⟨gh,0,none⟩)) (.pointer op) (.slice none 0 0) [] rts nr W2)):=by
  refine places_any ro nr cr rts W2 HSH.out (fun wx hx=>?_) (by simp;omega)
  have hbw:=HBX.out W2 hb2
  refine (HR.out.on hbw).keep hx.size (fun hne a ha=>?_)
  rcases HR.out.rd with e | ⟨bR,oR,e,hlt,_⟩
  ·exact absurd e hne
  ·rw [e] at ha; cases ha
   exact hx.blk bR (Nat.lt_of_lt_of_le hlt hbw.size) (by show bR ≠ gr + 1;omega) (by show bR ≠ gr + 1 + 1;omega) (fun e=>by cases e)
 have CN : Hid (∀ (vW : Value) (W : List Int) (wr : World) (x : Int),x∈L -> U64 x -> SH (gr + 1) W0 (.pointer (some ⟨gh,0,none⟩)) (.pointer op) vW W W wr -> Calls Tryz.prog 39 #[.pointer (some ⟨gr + 1 + 1,0,none⟩),.int .u64 x] wr (OPost (D x) wr)):=fun vW W wr x hxL hx hs=>HND.out wr x _ hxL hx (HBX.out wr hs.bel) ⟨blk_cell hs.box 0,blk_cell hs.box 1,(Array.getElem?_eq_some_iff.1 hs.box).1⟩
 have hmm:=@run_makeMap Tryz.prog
 have HRU:=hid R.bd
 have HM0:=hid (MI.start (D) rts R.bd)
 have HW0:=hid hW0
 have HW2:=hid hW2
 have KEY : Hid (∀ (vW : Value) (W rs : List Int) (ns : List Nd),MI (D) rts W rs ns -> W.length <= 2400):=fun vW W rs ns hM=>Nat.le_trans (hM.le HL.out) HLL.out
 clear R hL hl hk hT hok hN hs0 hb0 hy0 hb2 hgr hW0 hW2
 go_enter Tryz.func11,Tryz.ntmps11
 go_wp2_with (go_at_call 38;rw [<- HGR.out,<- HW0.out,<- HW2.out];(with_reducible refine CP0.out.mono ?_);rintro e W3 ⟨vo,vW0,rfl,p3⟩;obtain ⟨ao,co,rfl,_,_⟩:=slice_form p3.own;have HQ0:=hid (qs_start p3);clear p3)
 clear hmm
 obtain ⟨go,hgo⟩ : ∃ g,g = W3.heap.size:=⟨_,rfl⟩
 obtain ⟨W4,hW4⟩ : ∃ W,W = W3.alloc (.cells #[.slice none 0 0,.slice ao nr co] 34):=⟨_,rfl⟩
 rw [<- hgo,<- hW4] at HQ0
 rw [<- hW4,<- hgo]
 clear hW4 hgo
 obtain ⟨rs,hrs⟩ : ∃ r,r = plL [] rts:=⟨_,rfl⟩
 rw [<- hrs] at HQ0 HM0
 have HRSL : Hid (rs.length = nr):=by unfold Hid;rw [hrs,pl_len,HRL.out]
 clear hrs
 obtain ⟨v,hv⟩ : ∃ v,v = Value.pointer (some ⟨gh,0,none⟩):=⟨_,rfl⟩
 obtain ⟨vn,hvn⟩ : ∃ v,v = Value.pointer op:=⟨_,rfl⟩
 rw [<- hv,<- hvn] at HQ0 CN
 clear hv hvn
 go_loopw [9,10,11] (fun p _ _ wr=>∃ q : Nat,p = .int .i64 q /\ Hid (∃ vW vN W xs,QS (gr + 1) W0 v vn (.slice ao nr co) vW vN go nr rs W xs wr /\ MI (D) rts W rs (xs.map Prod.fst) /\ xs.length = q)) (fun p _ _ _=>3000 - (intOf p).toNat)
 case atStart=>exact ⟨0,rfl,vW0,_,_,[],HQ0.out,HM0.out,rfl⟩
 case round =>
  obtain ⟨q,rfl,HI0⟩:=hrel
  obtain ⟨vW,vN,W,xs,hQ,hM,hxl⟩:=HI0.out
  have hWl:=KEY.out vW W rs _ hM
  obtain ⟨aW,cW,rfl,hu⟩:=urow_own hQ.sh.ow hM.u
  have HQ:=hid hQ
  have HM:=hid hM
  have HX:=hid hxl
  have c2 : wr.cell? ⟨gr + 1 + 1,2,none⟩ = some (.slice aW W.length cW):=blk_cell hQ.sh.box 2
  have hf1:=hu.fits
  have hf2:=hu.most
  unfold maxLen at hf2
  by_cases hlt : q < W.length
  ·obtain ⟨bW, oW, rfl, hbW, hcW⟩ := hu.some (by omega)
   have c5:=hcW q hlt
   have hxm : W.getD q 0∈W:=getD_mem_w hlt
   have hxu:=hM.u _ hxm
   have C1:=hid (CN.out _ W wr _ (HL.out _ (hM.rch _ hxm)) hxu hQ.sh)
   have hdk:=HK.out _ (HL.out _ (hM.rch _ hxm))
   have HOKN : Hid (NdOk (D (W.getD q 0))):=ok_nd (HOK.out _) hdk.2
   have HSTEP : Hid (∀ (d : Nd),sameA d (D (W.getD q 0)) -> d.kids = plL W (D (W.getD q 0)).kids -> (∀ y∈(D (W.getD q 0)).kids,U64 y) -> MI (D) rts (metW W (D (W.getD q 0)).kids) rs (xs.map Prod.fst ++ [d])):=fun d h1 h2 h3=>by
    have hx2 : (xs.map Prod.fst).length = q:=by rw [List.length_map];exact HX.out
    have:=HM.out.step (d:=d) (by rw [hx2];exact hlt) (by rw [hx2];exact h1) (by rw [hx2];exact h2) (by rw [hx2];exact h3)
    rw [hx2] at this;exact this
   obtain ⟨x,hx⟩ : ∃ x,x = W.getD q 0:=⟨_,rfl⟩
   rw [<- hx] at c5 C1 HOKN HSTEP hdk hxu
   obtain ⟨d,hd⟩ : ∃ d,d = D x:=⟨_,rfl⟩
   rw [<- hd] at C1 HOKN HSTEP hdk
   obtain ⟨dk,dn,dt,dl⟩:=d
   simp only at hdk HSTEP
   have HDL:=hid hdk.1
   have CPK : Hid (∀ (W1 : World) (ak : Option Addr) (nk ck : Nat),URow W1 ak nk ck dl -> (∀ a,ak = some a -> wr.heap.size <= a.block) -> Below wr.heap.size wr W1 -> Calls Tryz.prog 38 #[.pointer (some ⟨gr + 1 + 1,0,none⟩),.slice ak nk ck] (W1.alloc (.cells #[.int .i64 dk,.int .i64 dn,.string dt,.slice none 0 0] 54)) (PLPost (gr + 1) W0 v vn (.slice (some ⟨bW,oW,none⟩) W.length cW) W dl nk (W1.alloc (.cells #[.int .i64 dk,.int .i64 dn,.string dt,.slice none 0 0] 54)))):=fun W1 ak nk ck hu1 ha hb=>by
    have hbA:=Ba W1 (.cells #[.int .i64 dk,.int .i64 dn,.string dt,.slice none 0 0] 54)
    have h1:=(HQ.out.on hb).on hbA
    have hwl:=HQ.out.sh.lt
    have hnk:=hu1.len
    have hdl:=HDL.out
    refine places_any ak nk ck dl _ h1.sh (fun wx hx=>?_) (by omega)
    refine (hu1.on hbA).keep hx.size (fun hne a e=>?_)
    have h2:=ha a e
    rcases hu1.rd with e2 | ⟨bk,ok,e2,h3,_⟩
    ·exact absurd e2 hne
    ·rw [e2] at e; cases e
     refine hx.blk bk (by rw [size_alloc];omega) (by simp at h2;omega) (by simp at h2;omega) (fun e=>?_)
     have:=(HQ.out.sh.ow.lt _ e).2
     simp at h2
     omega
   obtain ⟨aN,cN,hvN,hn1,hn2⟩:=slice_form hQ.nodes.own
   rw [hxl] at hvN hn1
   subst hvN
   have TRN : Hid (∀ (W1 W5 : World) (nk : Nat) (a5 : Option Addr) (c5 : Nat) (vW5 : Value),Below wr.heap.size wr W1 -> dl.length = nk -> POw (gr + 1) W0 v vn (.slice (some ⟨bW,oW,none⟩) W.length cW) (W1.alloc (.cells #[.int .i64 dk,.int .i64 dn,.string dt,.slice none 0 0] 54)) (.slice a5 nk c5) vW5 nk (plL W dl) (metW W dl) (metW W dl) W5 ->
     W5.cell? ⟨W1.heap.size,3,none⟩ = some (.slice none 0 0) /\ W5.frozen? ⟨W1.heap.size,3,none⟩ = false /\ (W5.setCell ⟨W1.heap.size,3,none⟩ (.slice a5 nk c5)).cell? ⟨go,0,none⟩ = some (.slice aN q cN) /\
     (W5.setCell ⟨W1.heap.size,3,none⟩ (.slice a5 nk c5)).cell? ⟨W1.heap.size,0,none⟩ = some (.int .i64 dk) /\ (W5.setCell ⟨W1.heap.size,3,none⟩ (.slice a5 nk c5)).cell? ⟨W1.heap.size,1,none⟩ = some (.int .i64 dn) /\ (W5.setCell ⟨W1.heap.size,3,none⟩ (.slice a5 nk c5)).cell? ⟨W1.heap.size,2,none⟩ = some (.string dt) /\ (W5.setCell ⟨W1.heap.size,3,none⟩ (.slice a5 nk c5)).cell? ⟨W1.heap.size,3,none⟩ = some (.slice a5 nk c5) /\
     Hid ((∀ j u,(nc ((⟨dk,dn,dt,plL W dl⟩ : Nd),a5,nk,c5))[j]? = some u -> ((W5.setCell ⟨W1.heap.size,3,none⟩ (.slice a5 nk c5)).alloc (.cells #[.int .i64 dk,.int .i64 dn,.string dt,.slice a5 nk c5] 54)).cell? ⟨W5.heap.size,j,none⟩ = some u) /\
     ((W5.setCell ⟨W1.heap.size,3,none⟩ (.slice a5 nk c5)).alloc (.cells #[.int .i64 dk,.int .i64 dn,.string dt,.slice a5 nk c5] 54)).ownsRow (go + 1) 54 4 (.slice aN q cN) q (ncs xs) /\
     go + 1 <= ((W5.setCell ⟨W1.heap.size,3,none⟩ (.slice a5 nk c5)).alloc (.cells #[.int .i64 dk,.int .i64 dn,.string dt,.slice a5 nk c5] 54)).heap.size /\
     (∀ g cap w',w'.ownsRow (go + 1) 54 4 (.slice (some ⟨g,0,none⟩) (q + 1) cap) (q + 1) (ncs xs ++ nc ((⟨dk,dn,dt,plL W dl⟩ : Nd),a5,nk,c5)) -> ((W5.setCell ⟨W1.heap.size,3,none⟩ (.slice a5 nk c5)).alloc (.cells #[.int .i64 dk,.int .i64 dn,.string dt,.slice a5 nk c5] 54)).grownBy w' (Value.slice aN q cN).ownBlock -> ((Value.slice aN q cN).ownBlock = some g \/ g = ((W5.setCell ⟨W1.heap.size,3,none⟩ (.slice a5 nk c5)).alloc (.cells #[.int .i64 dk,.int .i64 dn,.string dt,.slice a5 nk c5] 54)).heap.size) ->
      QS (gr + 1) W0 v vn (.slice ao nr co) vW5 (.slice (some ⟨g,0,none⟩) (q + 1) cap) go nr rs (metW W dl) (xs ++ [((⟨dk,dn,dt,plL W dl⟩ : Nd),a5,nk,c5)]) (w'.setCell ⟨go,0,none⟩ (.slice (some ⟨g,0,none⟩) (q + 1) cap)) /\ w'.frozen? ⟨go,0,none⟩ = false /\ w'.cell? ⟨go,0,none⟩ = some (.slice aN q cN)))):=fun W1 W5 nk a5 c5 vW5 hb hnk hp=>by
    have hml:=met_len dl W
    have hdl:=HDL.out
    obtain ⟨t1,t2,t3,t4,t5⟩:=node_turn (HQ.out.on hb) hp (fun z hz=>by have:=pl_rng hz;unfold I64;omega)
    have hss : (W5.setCell ⟨W1.heap.size,3,none⟩ (.slice a5 nk c5)).heap.size = W5.heap.size:=by simp [World.setCell]
    obtain ⟨S,hS⟩ : ∃ S,S = W5.setCell ⟨W1.heap.size,3,none⟩ (.slice a5 nk c5):=⟨_,rfl⟩
    rw [<- hS] at t2 t3 t4 t5 hss
    rw [<- hS]
    have hbS:=Ba S (.cells #[.int .i64 dk,.int .i64 dn,.string dt,.slice a5 nk c5] 54)
    have hnew:=blk_new S #[.int .i64 dk,.int .i64 dn,.string dt,.slice a5 nk c5] 54
    have h6:=t3.on hbS
    have ho6:=h6.nodes.own
    rw [HX.out] at ho6
    rw [hss] at hnew
    refine ⟨blk_cell t1 3,blk_free t1 3,blk_cell t3.box 0,blk_cell t2 0,blk_cell t2 1,blk_cell t2 2,blk_cell t2 3,fun j u hj=>?_,ho6,?_,fun g cap w' ho hg hl=>?_⟩
    ·exact news_of (d:=((⟨dk,dn,dt,plL W dl⟩ : Nd),a5,nk,c5)) hnew hj
    ·have:=h6.glt;omega
    ·have hx3 := HX.out
     rw [<- hx3] at ho
     have:=h6.push (d:=((⟨dk,dn,dt,plL W dl⟩ : Nd),a5,nk,c5)) ho hg hl HOKN.out (t4.below hbS) (fun ad e=>⟨(t5 ad e).1,Nat.lt_of_lt_of_le (t5 ad e).2.1 hbS.size,(t5 ad e).2.2⟩)
     rw [hx3] at this
     exact this
   unfold OPost bareV at C1
   simp only at C1
   obtain ⟨nW,hnW⟩ : ∃ n,n = W.length:=⟨_,rfl⟩
   rw [<- hnW] at c2 hlt hWl CPK TRN hf1
   have hq1 : q <= 1000000:=by omega
   clear hQ hM hu hcW hbW hxm hxu hdk hx hd hxl HI0 hnW hn1 hn2
   go_wp2_with (first
    | (go_at_call 39;(with_reducible refine C1.out.mono ?_);rintro e W1 ⟨ak,nk,ck,rfl,u1,a1,b1⟩;have C2:=hid (CPK.out W1 ak nk ck u1 a1 b1);have HU1:=hid u1.bd;have HNK:=hid u1.len;have HB1:=hid b1;clear u1 a1 b1)
    | (go_at_call 38;(with_reducible refine C2.out.mono ?_);rintro e W5 ⟨vo5,vW5,rfl,p5⟩;obtain ⟨a5,c5',rfl,_,_⟩:=slice_form p5.own;obtain ⟨t1,t2,t3,t4,t5,t6,t7,TH⟩:=TRN.out W1 W5 nk a5 c5' vW5 HB1.out HNK.out p5;clear p5)
    | (at_builtin;refine appn rfl _ _ 31 rfl (go + 1) 54 Tryz.underlying31 info_node _ q (ncs xs) rfl TH.out.2.1 W5.heap.size 1 ((⟨dk,dn,dt,plL W dl⟩ : Nd),a5,nk,c5') rfl TH.out.1 hq1 TH.out.2.2.1 ?_;intro g7 cap7 w7 ho7 hg7 hl7 hlt7;obtain ⟨p7,f7,e7⟩:=TH.out.2.2.2 g7 cap7 w7 ho7 hg7 hl7;have HP7:=hid p7;clear p7 ho7 hg7 hl7 hlt7))
   refine ⟨⟨q + 1,by go_num,vW5,.slice (some ⟨g7,0,none⟩) (q + 1) cap7,metW W dl,xs ++ [((⟨dk,dn,dt,plL W dl⟩ : Nd),a5,nk,c5')],HP7.out,?_,?_⟩,by simp [intOf] <;> omega⟩
   ·rw [List.map_append]
    exact HSTEP.out _ ⟨rfl,rfl,rfl⟩ rfl HU1.out
   ·rw [List.length_append,HX.out];rfl
  ·have hnl := hM.len
   rw [List.length_map,hxl] at hnl
   have hqe : (xs.map Prod.fst).length = W.length:=by rw [List.length_map,hxl];omega
   have HTO:=hid (hM.told hqe)
   obtain ⟨hfi,hsm⟩:=hM.fine hqe HOK.out HL.out HLL.out HK.out
   have HFI:=hid hfi
   obtain ⟨aN,cN,rfl,hnr0⟩:=hQ.nodes.row
   have hro:=hQ.ro
   rw [<- HRSL.out] at hro
   obtain ⟨ao',co',e1,hir⟩:=irow_own hro (fun z hz=>by have:=hM.rr z hz;unfold I64;omega)
   rw [<- HRSL.out] at HQ
   have e2 : ao = ao' /\ co = co':=by injection e1 with e1 _ e3;exact ⟨e1,e3⟩
   obtain ⟨rfl,rfl⟩:=e2
   have hbw:=HBX.out wr hQ.sh.bel
   have CC:=hid (canon_own aN ao xs.length cN rs.length co (xs.map Prod.fst) rs wr ⟨hnr0,hir⟩ hsm hfi.kids (by omega) (by have:=HRSL.out;omega) (HT.out.below hbw).1 300001 (by omega) (by omega))
   have HBW:=hid hbw
   have g0 : wr.cell? ⟨go,0,none⟩ = some (.slice aN xs.length cN):=blk_cell hQ.box 0
   have g1 : wr.cell? ⟨go,1,none⟩ = some (.slice ao nr co):=blk_cell hQ.box 1
   have hgrw : gr < wr.heap.size:=by have:=hQ.sh.lt;omega
   have HGRW:=hid hgrw
   have HYR : Hid (wr.heap[gr]? = some (.cells #[.slice none 0 0,.slice none 0 0] 34 (0,0))):=(hQ.sh.bel.block gr (by omega)).trans HY0.out
   unfold GVal at CC
   rw [hxl,HRSL.out] at CC
   rw [hxl] at g0
   clear hQ hM hu hxl HI0 HQ HM hfi hsm hnr0 hro hir hbw hgrw hqe hnl e1
   go_wp2_with (go_at_call 40;(with_reducible refine CC.out.mono ?_);rintro e w4 ⟨a1,n1,c1,a2,n2,c3,rfl,hGI,hGK,b4⟩;have y4:=(b4.block gr HGRW.out).trans HYR.out;have Y4:=hid y4;have v1 : w4.cell? ⟨gr,0,none⟩ = some (.slice none 0 0):=blk_cell y4 0;have v2 : w4.cell? ⟨gr,1,none⟩ = some (.slice none 0 0):=blk_cell y4 1;have fv1 : w4.frozen? ⟨gr,0,none⟩ = false:=blk_free y4 0;have fv2 : w4.frozen? ⟨gr,1,none⟩ = false:=blk_free y4 1;have HGI:=hid hGI;have HGK:=hid hGK;have HB4:=hid b4;clear y4 hGI hGK b4;try unfold GVal)
   have hst:=store2 (v1:=.slice a1 n1 c1) (v2:=.slice a2 n2 c3) Y4.out
   have r0:=blk_cell hst 0
   have r1:=blk_cell hst 1
   (try simp only [Exit.inBlock,Exit.then]);refine bodyPost_ret (by simp [results,Tryz.results11,go_sem,r0,r1];rfl) rfl ?_
   have hss : ((w4.setCell ⟨gr,0,none⟩ (.slice a1 n1 c1)).setCell ⟨gr,1,none⟩ (.slice a2 n2 c3)).heap.size = w4.heap.size:=by simp [World.setCell]
   have hfar : ∀ b,wr.heap.size <= b -> ((w4.setCell ⟨gr,0,none⟩ (.slice a1 n1 c1)).setCell ⟨gr,1,none⟩ (.slice a2 n2 c3)).heap[b]? = w4.heap[b]?:=fun b hb=>store2_far (by have:=HGRW.out;omega)
   refine ⟨a1,n1,c1,a2,n2,c3,W,xs.map Prod.fst,rs,rfl,HTO.out,HFI.out,HGK.out _ (by rw [hss];exact Nat.le_refl _) (fun b hb _=>hfar b hb),fun wz hz1 hz2=>HGK.out wz (by rw [hss] at hz1;exact hz1) (fun b hb hb2=>(hz2 b (Nat.le_trans HBW.out.size hb) (by rw [hss];exact hb2)).trans (hfar b hb)),store2_below (HBW.out.trans (HB4.out.mono HBW.out.size)) (by have:=HGR.out;omega)⟩
end
section
variable {B : Nat} {v vn : Value} {N : Int} {os : List Ob} {nm : List ByteArray} {F : Nat -> Prop} {gs : Nat} {w : World}
set_option maxHeartbeats 8000000 in
theorem fieldse_is (p : Int) (hp : U64 p) (w : World) (h : HE B v N os F w) (hs : SB gs v vn w) {k : Nat} (hf : findM os p = some k) :
  Calls Tryz.prog 120 #[.pointer (some ⟨gs,0,none⟩),.int .u64 p] w fun e w'=>∃ ao cap,e = .returned (.slice ao (os.getD k default).f.length cap) /\ URow w' ao (os.getD k default).f.length cap (os.getD k default).f /\ (∀ a,ao = some a -> w.heap.size <= a.block) /\ Below w.heap.size w w':=by
 have hk:=(findM_lt hf).1
 have hal:=at_lt hk
 have hbd:=h.used
 have hx:=getD_in_os hk
 have huf:=h.fine.uf _ hx
 have hnh:=h.fine.nh _ hx
 have C:=hid (psize_any h.fine p hp w h.ph)
 have e1 : sizeM os p = (((os.getD k default).f.length : Int),0):=by unfold sizeM;rw [hf]
 rw [e1] at C
 have HG : Hid (∀ (i : Nat) (W : World),i < (os.getD k default).f.length -> Below w.heap.size w W -> Calls Tryz.prog 156 #[v,.int .u64 p,.int .i64 0,.int .i64 (i : Nat)] W fun e w'=>e = .returned (.tuple #[.int .u64 ((os.getD k default).f.getD i 0),.int .i64 0]) /\ Below W.heap.size W w'):=fun i W hi hb=>by
  have:=pget_any h.fine p 0 (i : Nat) hp (by unfold Z64;omega) (by unfold Z64;omega) W (h.on hb).ph
  rw [gete_at hf hi] at this
  exact this
 have HSB : Hid (∀ W,Below w.heap.size w W -> W.cell? ⟨gs,0,none⟩ = some v):=fun W hb=>(hs.on hb).1
 have hfl : (os.getD k default).f.length <= 4194304:=by omega
 obtain ⟨gh,hv⟩:=h.ph.ptr
 obtain ⟨fl,hfle⟩ : ∃ f,f = (os.getD k default).f:=⟨_,rfl⟩
 rw [<- hfle] at C HG huf hnh hfl ⊢
 have HU:=hid huf
 have HH : Hid (∀ i,i < fl.length -> ∀ W,Calls Tryz.prog 115 #[.int .u64 (fl.getD i 0)] W fun e w'=>∃ a b,e = .returned (.tuple #[.int .i64 a,.int .i64 b,.bool false]) /\ w' = W):=fun i hi W=>by
  have:=headof_any (fl.getD i 0) (huf _ (getD_in_f hi)) W
  have e8 : isR 8 (fl.getD i 0) = false:=hnh _ (getD_in_f hi)
  rw [e8] at this
  exact this.mono (fun e w' ⟨h1,h2⟩=>⟨_,_,h1,h2⟩)
 obtain ⟨n,hn⟩ : ∃ n,n = fl.length:=⟨_,rfl⟩
 rw [<- hn] at C HG hfl HH ⊢
 have HN:=hid hn
 have c0:=HSB.out w (Below.refl _ _)
 subst hv
 clear h hs hf hk hal hbd hx huf hnh e1 hfle hn
 go_enter Tryz.func120,Tryz.ntmps120
 go_wp2_with (go_at_call 153;(with_reducible refine C.out.mono ?_);rintro e W1 ⟨rfl,b1⟩;have HB1:=hid b1;clear b1)
 clear c0
 go_loopw [5,8,9,10,11,12,13,24] (fun v _ _ _ _ _ _ i wr=>∃ q : Nat,q <= n /\ i = .int .i64 q /\ Hid (wr.ownsRow w.heap.size 44 1 v q (uz (fl.take q)) /\ Below w.heap.size w wr)) (fun _ _ _ _ _ _ _ i _=>n - (intOf i).toNat)
 case atStart=>exact ⟨0,Nat.zero_le _,rfl,World.ownsRow_nil _ _ _ _,HB1.out⟩
 case round =>
  obtain ⟨q,hq,rfl,hI⟩:=hrel
  have HOQ:=hid hI.out.1
  have HBQ:=hid hI.out.2
  clear hI
  by_cases hlt : q < n
  ·have c0 := HSB.out wr HBQ.out
   have C1:=hid (HG.out q wr hlt HBQ.out)
   have C2:=hid (HH.out q hlt)
   have HT : Hid (fl.take (q + 1) = fl.take q ++ [fl.getD q 0]):=by
    unfold Hid
    have : q < fl.length:=by rw [<- HN.out];exact hlt
    rw [List.take_succ_eq_append_getElem this,List.getD_eq_getElem?_getD,List.getElem?_eq_getElem this];rfl
   have hzu : Hid (U64 (fl.getD q 0)):=HU.out _ (getD_in_f (by rw [<- HN.out];exact hlt))
   obtain ⟨zx,hzx⟩ : ∃ z,z = fl.getD q 0:=⟨_,rfl⟩
   rw [<- hzx] at C1 C2 HT hzu
   have arm : Hid (∀ W,Below wr.heap.size wr W -> (W.alloc (.cells #[.int .u64 zx] 44)).ownsRow w.heap.size 44 1 u5 q (uz (fl.take q)) /\ URow (W.alloc (.cells #[.int .u64 zx] 44)) (some ⟨W.heap.size,0,none⟩) 1 1 [zx] /\ Below w.heap.size w (W.alloc (.cells #[.int .u64 zx] 44))):=fun W hb =>
    ⟨uown_on (uown_on HOQ.out hb) (Ba W _),urow_one (blk_new W #[.int .u64 zx] 44) hzu.out,Bt (Bt HBQ.out (hb)) (Ba W _)⟩
   clear hzx
   go_wp2_with (first
    | (go_at_call 156;(with_reducible refine C1.out.mono ?_);rintro e W3 ⟨rfl,b3⟩;obtain ⟨a1,a2,a3⟩:=arm.out W3 b3;have HO1:=hid a1;have HU1:=hid a2;have HBA:=hid a3;have HSA:=hid a3.size;clear b3 a1 a2 a3)
    | (go_at_call 115;(with_reducible refine (C2.out _).mono ?_);rintro e W4 ⟨x1,x2,rfl,hw4⟩;rw [hw4];clear hw4)
    | (at_builtin;refine appU rfl _ _ 23 rfl w.heap.size 44 Tryz.underlying23 info_word _ q (fl.take q) rfl HO1.out (some ⟨W3.heap.size,0,none⟩) 1 1 [zx] rfl HU1.out (by omega) HSA.out ?_;intro v2 w2 ho2 hg2))
   have HE : Hid (Below w.heap.size w w2):=HBA.out.grown hg2 HSA.out (fun b hb=>(HO1.out.lt b hb).1)
   refine ⟨⟨q + 1,by omega,by go_num,?_,HE.out⟩,by simp [intOf] <;> omega⟩
   rw [HT.out];exact ho2
  ·obtain rfl : n = q := by omega
   have hoq:=HOQ.out
   rw [List.take_of_length_le (by rw [<- HN.out];exact Nat.le_refl _)] at hoq
   have hoq':=hoq
   rw [HN.out] at hoq'
   obtain ⟨ao,cap,hv,hu⟩:=urow_own hoq' HU.out
   rw [<- HN.out] at hv hu
   subst hv
   have HUU:=hid hu
   have HLT : Hid (∀ a,ao = some a -> w.heap.size <= a.block):=fun a e=>(hoq.lt a.block (by rw [e];rfl)).1
   clear hoq hoq' hu
   go_wp2_with fail
   go_ret
   exact ⟨ao,cap,rfl,HUU.out,HLT.out,HBQ.out⟩
set_option maxHeartbeats 16000000 in
theorem objecte_is (p : Int) (hp : U64 p) (w : World) (h : HE B v N os F w) (hs : SB gs v vn w) {k : Nat} (hf : findM os p = some k) (h5 : (os.getD k default).kind = 5) :
  Calls Tryz.prog 74 #[.pointer (some ⟨gs,0,none⟩),.int .u64 p,.int .i64 5] w (OPost (bigNd (os.getD k default).f) w):=by
 have hk:=(findM_lt hf).1
 have hal:=at_lt hk
 have hbd:=h.used
 have hfl : (os.getD k default).f.length <= 5000000:=by omega
 have hz:=NZ.new w
 have b0:=Ba w (.cells #[.int .i64 0,.int .i64 0,.string ⟨#[]⟩,.slice none 0 0] 54)
 have CF:=hid (fieldse_is p hp _ (h.on b0) (hs.on b0) hf)
 obtain ⟨W0,hW0⟩ : ∃ W,W = w.alloc (.cells #[.int .i64 0,.int .i64 0,.string ⟨#[]⟩,.slice none 0 0] 54):=⟨_,rfl⟩
 rw [<- hW0] at hz b0 CF
 have HZ:=hid hz
 have HB:=hid b0
 have fin : Hid (∀ (k m : Int) (W : World) (t0 : ByteArray),Below W0.heap.size W0 W -> NZ w.heap.size W /\ ((((W.setCell ⟨w.heap.size,0,none⟩ (.int .i64 k)).setCell ⟨w.heap.size,1,none⟩ (.int .i64 m)).setCell ⟨w.heap.size,2,none⟩ (.string t0)).setCell ⟨w.heap.size,3,none⟩ (.slice none 0 0)).heap[w.heap.size]? = some (.cells #[.int .i64 k,.int .i64 m,.string t0,.slice none 0 0] 54 (0,0)) /\ Below w.heap.size w ((((W.setCell ⟨w.heap.size,0,none⟩ (.int .i64 k)).setCell ⟨w.heap.size,1,none⟩ (.int .i64 m)).setCell ⟨w.heap.size,2,none⟩ (.string t0)).setCell ⟨w.heap.size,3,none⟩ (.slice none 0 0)) /\ (∀ b,b ≠ w.heap.size -> ((((W.setCell ⟨w.heap.size,0,none⟩ (.int .i64 k)).setCell ⟨w.heap.size,1,none⟩ (.int .i64 m)).setCell ⟨w.heap.size,2,none⟩ (.string t0)).setCell ⟨w.heap.size,3,none⟩ (.slice none 0 0)).heap[b]? = W.heap[b]?) /\ ((((W.setCell ⟨w.heap.size,0,none⟩ (.int .i64 k)).setCell ⟨w.heap.size,1,none⟩ (.int .i64 m)).setCell ⟨w.heap.size,2,none⟩ (.string t0)).setCell ⟨w.heap.size,3,none⟩ (.slice none 0 0)).heap.size = W.heap.size):=fun k m W t0 hb =>
  ⟨HZ.out.on hb,store4 (HZ.out.on hb),store4_below (Bt HB.out hb) (Nat.le_refl _),fun b hne=>store4_far hne,by simp [World.setCell]⟩
 have hs0 : Hid (W0.heap.size = w.heap.size + 1):=by unfold Hid;rw [hW0,size_alloc]
 obtain ⟨fl,hfe⟩ : ∃ x,x = (os.getD k default).f:=⟨_,rfl⟩
 rw [<- hfe] at CF hfl ⊢
 clear h hs hz b0 hk hal hbd hf hfe h5
 have C2 : Hid (∀ (ao : Option Addr) (cap : Nat) (W : World),URow W ao fl.length cap fl -> Calls Tryz.prog 124 #[.slice ao fl.length cap] W fun e w'=>e = .returned (bareV (bigNd fl)) /\ Below W.heap.size W w'):=fun ao cap W R=>bign_any ao fl.length cap fl W R hfl
 have hkid : (bigNd fl).kids = []:=by unfold bigNd;split <;> rfl
 obtain ⟨n,hn⟩ : ∃ n,n = fl.length:=⟨_,rfl⟩
 obtain ⟨d,hdd⟩ : ∃ d,d = bigNd fl:=⟨_,rfl⟩
 rw [<- hdd] at C2 hkid ⊢
 rw [<- hn] at C2 CF
 obtain ⟨dk,dn,dt,dl⟩:=d
 simp only at hkid
 subst hkid
 unfold bareV at C2
 simp only at C2
 rw [hW0] at CF
 clear hn hdd
 go_enter Tryz.func74,Tryz.ntmps74
 go_wp2_with (first
  | (go_at_call 120;(with_reducible refine CF.out.mono ?_);rintro e W1 ⟨ao,cap,rfl,hu1,ha1,b1⟩;try (rw [<- hW0] at ha1 b1);have HB1:=hid b1;have C3:=hid (C2.out ao cap W1 hu1);clear hu1 ha1 b1)
  | (go_at_call 124;(with_reducible refine C3.out.mono ?_);rintro e W3 ⟨rfl,b3⟩;have hf3:=HB1.out.trans (b3.mono HB1.out.size);clear b3;obtain ⟨hz2,q1,q2,q3,q4⟩:=fin.out dk dn W3 dt hf3;obtain ⟨c0,c1,c2,c3,f0,f1,f2,f3⟩:=hz2.c;have t0:=blk_cell q1 0;have t1:=blk_cell q1 1;have t2:=blk_cell q1 2;have t3:=blk_cell q1 3;have HQ2:=hid q2;have HQ3:=hid q3;have HQ4:=hid q4;clear hz2 q1 q2 q3 q4;clear hf3))
 (try simp only [Exit.inBlock,Exit.then]);refine bodyPost_ret (by simp [results,Tryz.results74,go_sem,t0,t1,t2,t3];rfl) rfl ?_
 exact OPost.bare HQ2.out
set_option maxHeartbeats 8000000 in
theorem nodee_is (x : Int) (hx : U64 x) (w : World) (h : HE B v N os F w) (hs : SB gs v vn w) {k : Nat} (hf : findM os x = some k) (h5 : (os.getD k default).kind = 5) :
  Calls Tryz.prog 39 #[.pointer (some ⟨gs,0,none⟩),.int .u64 x] w (OPost (bigNd (os.getD k default).f) w):=by
 have hz:=NZ.new w
 have b0:=Ba w (.cells #[.int .i64 0,.int .i64 0,.string ⟨#[]⟩,.slice none 0 0] 54)
 obtain ⟨W0,hW0⟩ : ∃ W,W = w.alloc (.cells #[.int .i64 0,.int .i64 0,.string ⟨#[]⟩,.slice none 0 0] 54):=⟨_,rfl⟩
 rw [<- hW0] at hz b0
 have HZ:=hid hz
 have HB:=hid b0
 have s0:=(hs.on b0).1
 have CK:=hid (pkind_any h.fine x hx _ (h.on b0).ph)
 have hs0 : Hid (W0.heap.size = w.heap.size + 1):=by unfold Hid;rw [hW0,size_alloc]
 have fin : Hid (∀ (k m : Int) (W : World) (t0 : ByteArray),Below W0.heap.size W0 W -> NZ w.heap.size W /\ ((((W.setCell ⟨w.heap.size,0,none⟩ (.int .i64 k)).setCell ⟨w.heap.size,1,none⟩ (.int .i64 m)).setCell ⟨w.heap.size,2,none⟩ (.string t0)).setCell ⟨w.heap.size,3,none⟩ (.slice none 0 0)).heap[w.heap.size]? = some (.cells #[.int .i64 k,.int .i64 m,.string t0,.slice none 0 0] 54 (0,0)) /\ Below w.heap.size w ((((W.setCell ⟨w.heap.size,0,none⟩ (.int .i64 k)).setCell ⟨w.heap.size,1,none⟩ (.int .i64 m)).setCell ⟨w.heap.size,2,none⟩ (.string t0)).setCell ⟨w.heap.size,3,none⟩ (.slice none 0 0)) /\ (∀ b,b ≠ w.heap.size -> ((((W.setCell ⟨w.heap.size,0,none⟩ (.int .i64 k)).setCell ⟨w.heap.size,1,none⟩ (.int .i64 m)).setCell ⟨w.heap.size,2,none⟩ (.string t0)).setCell ⟨w.heap.size,3,none⟩ (.slice none 0 0)).heap[b]? = W.heap[b]?) /\ ((((W.setCell ⟨w.heap.size,0,none⟩ (.int .i64 k)).setCell ⟨w.heap.size,1,none⟩ (.int .i64 m)).setCell ⟨w.heap.size,2,none⟩ (.string t0)).setCell ⟨w.heap.size,3,none⟩ (.slice none 0 0)).heap.size = W.heap.size):=fun k m W t0 hb =>
  ⟨HZ.out.on hb,store4 (HZ.out.on hb),store4_below (Bt HB.out hb) (Nat.le_refl _),fun b hne=>store4_far hne,by simp [World.setCell]⟩
 have CO2 : Hid (∀ W,Below w.heap.size w W -> Calls Tryz.prog 74 #[.pointer (some ⟨gs,0,none⟩),.int .u64 x,.int .i64 5] W (OPost (bigNd (os.getD k default).f) W)):=fun W hb=>objecte_is x hx W (h.on hb) (hs.on hb) hf h5
 obtain ⟨gh,rfl⟩:=h.ph.ptr
 unfold kindM at CK
 rw [hW0] at s0 CK
 clear h hs hz b0
 rw [hf] at CK
 simp only at CK
 rw [h5] at CK
 obtain ⟨d,hdd⟩ : ∃ d,d = bigNd (os.getD k default).f:=⟨_,rfl⟩
 rw [<- hdd] at CO2 ⊢
 obtain ⟨dk,dn,dt,dl⟩:=d
 unfold OPost bareV at CO2
 simp only at CO2
 clear hf hdd h5
 go_enter Tryz.func39,Tryz.ntmps39
 go_wp2_with (first
  | (go_at_call 73;(with_reducible refine CK.out.mono ?_);rintro e W1 ⟨rfl,b1⟩;rw [<- hW0] at b1;have HB1:=hid b1;have C2:=hid (CO2.out W1 (Bt HB.out b1));clear b1)
  | (go_at_call 74;(with_reducible refine C2.out.mono ?_);rintro e W3 ⟨ak,nk,ck,rfl,hu3,ha3,b3⟩;have HU3:=hid hu3;have HA3:=hid ha3;have hf3:=HB1.out.trans (b3.mono HB1.out.size);obtain ⟨hz2,q1,q2,q3,q4⟩:=fin.out dk dn W3 dt hf3;obtain ⟨c0,c1,c2,c3,f0,f1,f2,f3⟩:=hz2.c;have t0:=blk_cell q1 0;have t1:=blk_cell q1 1;have t2:=blk_cell q1 2;have t3:=blk_cell q1 3;have HQ2:=hid q2;have HQ3:=hid q3;have HQ4:=hid q4;clear hz2 q1 q2 q3 q4 b3 hf3 hu3 ha3))
 (try simp only [Exit.inBlock,Exit.then]);refine bodyPost_ret (by simp [results,Tryz.results39,go_sem,t0,t1,t2,t3];rfl) rfl ?_
 have e1:=HB1.out.size
 have e2:=hs0.out
 exact ⟨ak,nk,ck,rfl,HU3.out.keep (by have:=HQ4.out;omega) (fun _ a e=>HQ3.out _ (by have:=HA3.out a e;omega)),fun a e=>by have:=HA3.out a e;omega,HQ2.out⟩
end
end Go.Proofs.YticimejfjjmikaaGreatDoor
