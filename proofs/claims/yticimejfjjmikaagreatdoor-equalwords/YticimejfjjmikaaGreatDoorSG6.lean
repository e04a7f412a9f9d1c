import Derived.Test.YticimejfjjmikaaGreatDoorST11
import Derived.Test.YticimejfjjmikaaGreatDoorST5
set_option linter.unusedVariables false
set_option linter.unusedSimpArgs false
set_option maxRecDepth 100000
namespace Go.Proofs.YticimejfjjmikaaGreatDoor
open Go.RowKit
theorem PQ.post {B g gn : Nat} {N : Int} {F : Nat -> Prop} {w W : World} {vL : Value} {ls : List (Ob × Sl)} {vN : Value} {nm : List ByteArray} {v : Value} {n : Nat} {ws : List Int} {wr : World} (h : PQ B g gn N F W vL ls vN nm v n ws wr) (hb : Below w.heap.size w W) : HNPost B g N F gn w (ls.map Prod.fst) nm wr :=
 ⟨vL,ls,vN,h.hn,rfl,fun b e=>(h.foot b e).imp id (fun e=>by have:=hb.size;omega),(Mod.of_below F hb).trans h.mod (fun _ _ e=>e)⟩
theorem fieldsL_len {d : Nd} {ws : List Int} (hz : 0 < sizeN d) : ((fieldsL d ws).length : Int) + 1 = sizeN d:=by
 unfold sizeN at hz ⊢
 unfold fieldsL
 by_cases h1 : d.kind = 1 \/ d.kind = 2 \/ d.kind = 4 \/ d.kind = 6 \/ d.kind = 10 \/ d.kind = 11
 ·rw [if_pos h1] at hz;omega
 rw [if_neg h1] at hz ⊢
 by_cases h3 : d.kind = 3
 ·rw [if_pos h3] at hz ⊢
  rw [if_pos h3]
  by_cases hf : fixB (txZ d.text) = true
  ·rw [if_pos hf] at hz;omega
  ·rw [if_neg hf,bigL_len];omega
 rw [if_neg h3] at hz ⊢
 rw [if_neg h3]
 by_cases h5 : d.kind = 5
 ·rw [if_pos h5,if_pos h5,List.length_map];omega
 rw [if_neg h5] at hz ⊢
 rw [if_neg h5]
 by_cases h7 : d.kind = 7 \/ d.kind = 8
 ·rw [if_pos h7,if_neg (by omega),List.length_map];omega
 rw [if_neg h7] at hz ⊢
 by_cases h9 : d.kind = 9
 ·rw [if_pos h9,if_pos h9,bytesL_len];omega
 rw [if_neg h9] at hz
 omega
theorem fieldsK_z (d : Nd) : Z64 (fieldsK d):=by
 unfold fieldsK Z64
 split
 ·omega
 split
 ·omega
 split
 ·omega
 split <;> omega
theorem needM_pos {ns : List Nd} {rs : List Int} (h : ¬ needM ns rs < 0) : goodG ns rs = true /\ (canonN ns rs).1.all (fun d=>decide (0 <= sizeN d)) = true /\ needM ns rs = sumN (canonN ns rs).1:=by
 unfold needM at h ⊢
 by_cases h1 : goodG ns rs = true /\ (canonN ns rs).1.all (fun d=>decide (0 <= sizeN d)) = true
 ·rw [if_pos h1];exact ⟨h1.1,h1.2,rfl⟩
 ·rw [if_neg h1] at h;omega
theorem needM_le {ns : List Nd} {rs : List Int} (hs : smallG ns) (hk : ∀ d∈ns,d.kids.length <= 100) (hn : ns.length <= 100) : -1 <= needM ns rs /\ needM ns rs <= 500000:=by
 unfold needM
 split
 ·next h =>
  obtain ⟨c1,c2,_,_⟩:=canon_nodes h.1 hs hk hn
  have h1:=sumN_bd c1 (canonN ns rs).1.length
  have h2:=sumN_le h.2 (canonN ns rs).1.length
  rw [List.take_of_length_le (Nat.le_refl _)] at h1 h2
  omega
 ·omega
def PutPost (B g gn : Nat) (N : Int) (F : Nat -> Prop) (w : World) (r : List Int × Int × List Ob × List ByteArray) (e : Ending) (w' : World) : Prop :=
 ∃ v,e = .returned (.tuple #[v,.int .i64 r.2.1]) /\ w'.ownsRow w.heap.size 44 1 v r.1.length (uz r.1) /\ HNPost B g N F gn w r.2.2.1 r.2.2.2 w'
set_option maxHeartbeats 8000000 in
theorem rput_any {B g gn : Nat} {N : Int} {vL vN : Value} {ls : List (Ob × Sl)} {nm : List ByteArray} (an ar : Option Addr) (nn cn nr cr : Nat) (ns : List Nd) (rs : List Int) (w : World) (h : HN B g N vL ls gn vN nm w) (G : GIs w an nn cn ar nr cr ns rs) (hs : smallG ns) (hk : ∀ d ∈ ns, d.kids.length <= 100) (hn : nn <= 100) (hnr : nr <= 100) (hB : B <= w.heap.size) (hnm : nm.length <= 900000) :
  Calls Tryz.prog 51 #[.pointer (some ⟨g,0,none⟩),.pointer (some ⟨gn,0,none⟩),GVal an nn cn ar nr cr] w (PutPost B g gn N (HNF g vL ls gn vN) w (putR N (ls.map Prod.fst) nm ns rs)):=by
 have hnl:=G.nodes.len
 have hrl:=G.roots.len
 have f1:=G.nodes.fits
 have f2:=G.nodes.most
 have f3:=G.roots.fits
 have f4:=G.roots.most
 unfold maxLen at f2 f4
 have HG:=hid G
 have HH:=hid h
 have HF : Hid (∀ b,HNF g vL ls gn vN b -> b < w.heap.size):=fun b e=>(h.ge b e).2
 have hrm:=h.heap.room
 have ba:=Ba w (.cells #[.slice an nn cn,.slice ar nr cr] 34)
 have hx:=GBox.new 34 w an ar nn cn nr cr
 have HB:=hid ba
 have HX:=hid hx
 obtain ⟨p0,p1⟩:=hx.c
 have C1:=hid (need_any an ar nn cn nr cr ns rs (w.alloc (.cells #[.slice an nn cn,.slice ar nr cr] 34)) (G.below ba) hs hk hn hnr)
 have hnb:=needM_le (rs:=rs) hs hk (by omega)
 have HNP : Hid (¬ needM ns rs < 0 -> goodG ns rs = true /\ (canonN ns rs).1.all (fun d=>decide (0 <= sizeN d)) = true /\ needM ns rs = sumN (canonN ns rs).1):=needM_pos
 have HCN : Hid (goodG ns rs = true -> (∀ d∈(canonN ns rs).1,CNd d) /\ (canonN ns rs).1.length <= 100 /\ (canonN ns rs).2.length = rs.length /\ goodG (canonN ns rs).1 (canonN ns rs).2 = true):=fun h=>canon_nodes h hs hk (by omega)
 have CC : Hid (∀ W1,GIs W1 an nn cn ar nr cr ns rs -> Calls Tryz.prog 14 #[.agg #[.slice an nn cn,.slice ar nr cr]] W1 fun e w'=>∃ a1 n1 c1 a2 n2 c2,e = .returned (.agg #[.slice a1 n1 c1,.slice a2 n2 c2]) /\ GIs w' a1 n1 c1 a2 n2 c2 (canonN ns rs).1 (canonN ns rs).2 /\ GKeep W1.heap.size w' a1 n1 c1 a2 n2 c2 (canonN ns rs).1 (canonN ns rs).2 /\ Below W1.heap.size W1 w'):=fun W1 gi=>rcanon_own an ar nn cn nr cr ns rs W1 gi hs hk (by omega) (by omega)
 have CR : Hid (∀ W,Below w.heap.size w W -> Calls Tryz.prog 69 #[.pointer (some ⟨g,0,none⟩)] W fun e w'=>e = .returned (.int .i64 (N - (usedL (ls.map Prod.fst) : Nat))) /\ Below W.heap.size W w'):=fun W b=>rroom_any W (HH.out.on b).heap
 have CU : Hid (∀ W,Below w.heap.size w W -> Calls Tryz.prog 90 #[.pointer (some ⟨g,0,none⟩)] W fun e w'=>e = .returned (.int .i64 (usedL (ls.map Prod.fst) : Nat)) /\ Below W.heap.size W w'):=fun W b=>rused_any W (HH.out.on b).heap
 have HR : Hid (putR N (ls.map Prod.fst) nm ns rs = if needM ns rs < 0 then ([],20,ls.map Prod.fst,nm) else if N - (usedL (ls.map Prod.fst) : Nat) < needM ns rs then ([],3,ls.map Prod.fst,nm)
  else ((canonN ns rs).2.map (fun i : Int=>(putS nm (usedL (ls.map Prod.fst)) (canonN ns rs).1).ws.getD i.toNat 0),0,putO N (putS nm (usedL (ls.map Prod.fst)) (canonN ns rs).1).ws (ls.map Prod.fst) (canonN ns rs).1,(putS nm (usedL (ls.map Prod.fst)) (canonN ns rs).1).nm)):=rfl
 obtain ⟨u,hu⟩ : ∃ u,u = usedL (ls.map Prod.fst):=⟨_,rfl⟩
 obtain ⟨z,hz⟩ : ∃ z,z = needM ns rs:=⟨_,rfl⟩
 obtain ⟨R,hR⟩ : ∃ R,R = putR N (ls.map Prod.fst) nm ns rs:=⟨_,rfl⟩
 rw [<- hR] at HR ⊢
 rw [<- hz] at C1 HR hnb HNP
 rw [<- hu] at CR CU HR hrm
 unfold GVal at C1 ⊢
 have nofail : Hid (∀ (k : Int) W,Below w.heap.size w W -> R = ([],k,ls.map Prod.fst,nm) -> PutPost B g gn N (HNF g vL ls gn vN) w R (.returned (.tuple #[.slice none 0 0,.int .i64 k])) W):=fun k W b e=>by
  rw [e]
  exact ⟨_,rfl,World.ownsRow_nil _ _ _ _,HH.out.post b⟩
 clear G h hs hk hx ba hu hz hR
 by_cases hz0 : z < 0
 ·have ez : decide (z < 0) = true := decide_eq_true hz0
  rw [if_pos hz0] at HR
  go_enter Tryz.func51,Tryz.ntmps51
  go_wp2_with (go_at_call 89;(with_reducible refine C1.out.mono ?_);rintro e W1 ⟨rfl,b1⟩;have HB1:=hid (Bt HB.out b1);clear b1)
  go_ret2
  exact nofail.out 20 _ HB1.out HR.out
 rw [if_neg hz0] at HR
 have ez : decide (z < 0) = false:=decide_eq_false hz0
 obtain ⟨gd,gal,gsum⟩:=HNP.out hz0
 obtain ⟨r,hr⟩ : ∃ r : Int,r = N - (u : Nat):=⟨_,rfl⟩
 rw [<- hr] at CR HR
 by_cases hz1 : r < z
 ·have er : decide (r < z) = true := decide_eq_true hz1
  rw [if_pos hz1] at HR
  clear gd gal gsum
  go_enter Tryz.func51,Tryz.ntmps51
  go_wp2_with (first
   | (go_at_call 89;(with_reducible refine C1.out.mono ?_);rintro e W1 ⟨rfl,b1⟩;have HB1:=hid (Bt HB.out b1);have C2:=hid (CR.out W1 HB1.out);clear b1)
   | (go_at_call 69;(with_reducible refine C2.out.mono ?_);rintro e W2 ⟨rfl,b2⟩;have HB2:=hid (Bt HB1.out b2);clear b2))
  go_ret2
  exact nofail.out 3 _ HB2.out HR.out
 rw [if_neg hz1] at HR
 have er : decide (r < z) = false:=decide_eq_false hz1
 obtain ⟨cnd,cl,crl,cgd⟩:=HCN.out gd
 obtain ⟨cs,hcs⟩ : ∃ c,c = (canonN ns rs).1:=⟨_,rfl⟩
 obtain ⟨crs,hcrs⟩ : ∃ c,c = (canonN ns rs).2:=⟨_,rfl⟩
 rw [<- hcs] at cnd cl cgd gal gsum CC HR
 rw [<- hcrs] at crl cgd CC HR
 have HCND:=hid cnd
 have HGAL:=hid gal
 have HKP : Hid (∀ d∈cs,∀ k∈d.kids,0 <= k /\ k < cs.length):=fun d hd=>places_rng ((goodG_parts cgd).1 d hd)
 have HRP : Hid (∀ k∈crs,0 <= k /\ k < cs.length):=places_rng (goodG_parts cgd).2
 have HAT : Hid (∀ q,q <= cs.length -> ((putS nm u (cs.take q)).at_ : Int) <= N):=fun q hq=>by
  have h1:=putS_at (nm:=nm) (a:=u) gal q hq
  have h2:=sumN_le gal q
  omega
 have HBD:=hid (sumN_bd cnd)
 clear HNP HCN cnd gd gal cgd gsum hcs hcrs nofail
 go_enter Tryz.func51,Tryz.ntmps51
 go_wp2_with (first
  | (go_at_call 89;(with_reducible refine C1.out.mono ?_);rintro e W1 ⟨rfl,b1⟩;have HB1:=hid (Bt HB.out b1);have X1:=hid (HX.out.on b1);have C2:=hid (CR.out W1 HB1.out);clear b1)
  | (go_at_call 69;(with_reducible refine C2.out.mono ?_);rintro e W2 ⟨rfl,b2⟩;have HB2:=hid (Bt HB1.out b2);obtain ⟨d0,d1⟩:=(X1.out.on b2).c;have C3:=hid (CC.out W2 (HG.out.below HB2.out));clear b2)
  | (go_at_call 14;(with_reducible refine C3.out.mono ?_);rintro e W3 ⟨a1,n1,c1,a2,n2,c2,rfl,g2,gk2,b3⟩;have h1:=g2.nodes.fits;have h2:=g2.nodes.most;have h3:=g2.roots.fits;have h4:=g2.roots.most;have h5:=g2.nodes.len;have h6:=g2.roots.len;have HBL3:=hid b3;have HGK:=hid gk2;have HB4:=hid (Bt (Bt HB2.out b3) (Ba W3 (.cells #[.slice a1 n1 c1,.slice a2 n2 c2] 34)));have HX4:=hid (GBox.new 34 W3 a1 a2 n1 c1 n2 c2);have C4:=hid (CU.out _ HB4.out);clear b3 g2 gk2 d0 d1 p0 p1)
  | (go_at_call 90;(with_reducible refine C4.out.mono ?_);rintro e W5 ⟨rfl,b5⟩;have HB5:=hid (Bt HB4.out b5);have HBL5:=hid b5;clear b5))
 unfold maxLen at h2 h4
 have HC : Hid (∀ wr,Mod (HNF g vL ls gn vN) W5 wr -> GIs wr a1 n1 c1 a2 n2 c2 cs crs /\ GBox 34 wr W3.heap.size a1 n1 c1 a2 n2 c2):=fun wr hm=>by
  have s2:=HB2.out.size
  have s3:=HBL3.out.size
  have s5:=HBL5.out.size
  rw [size_alloc] at s5
  have hsz:=hm.size
  refine ⟨HGK.out wr (by omega) (fun b e1 e2=>?_),?_⟩
  ·rw [hm.block b (by omega) (fun e => by have := HF.out b e; omega), HBL5.out.block b (by rw [size_alloc]; omega)]
   exact (Ba W3 _).block b e2
  ·exact (hm.block W3.heap.size (by omega) (fun e=>by have:=HF.out _ e;omega)).trans ((HBL5.out.block W3.heap.size (by rw [size_alloc];omega)).trans HX4.out)
 have hWs : Hid (w.heap.size <= W5.heap.size):=HB5.out.size
 obtain ⟨gc,hgc⟩ : ∃ g,g = W3.heap.size:=⟨_,rfl⟩
 rw [<- hgc] at HC ⊢
 obtain ⟨F,hFF⟩ : ∃ F,F = HNF g vL ls gn vN:=⟨_,rfl⟩
 have HN5:=hid (HH.out.on HB5.out)
 have HFE:=hid hFF
 have HFT : Hid (∀ b,HNF g vL ls gn vN b -> F b):=by rw [hFF];exact fun _ e=>e
 rw [<- hFF] at HC ⊢
 have HBB : Hid (B <= W5.heap.size):=Nat.le_trans hB hWs.out
 have HN6 : Hid (PQ B g gn N F W5 vL ls vN nm (.slice none 0 0) 0 [] W5):=⟨HN5.out,fun b e=>.inl (HFT.out b e),Mod.refl _ _,World.ownsRow_nil _ _ _ _,fun b e=>by cases e⟩
 clear hgc hFF HX4 HGK HBL3 HBL5 C1 C2 C3 C4 CC CR CU HX X1 HG HH HB HB1 HB2 HB4 HN5 HFT hB
 go_loopw [10,11,12] (fun v a i wr=>∃ q : Nat,q <= n1 /\ i = .int .i64 q /\ a = .int .i64 ((putS nm u (cs.take q)).at_ : Nat) /\ Hid (∃ vN',PQ B g gn N F W5 vL ls vN' (putS nm u (cs.take q)).nm v q (putS nm u (cs.take q)).ws wr)) (fun _ _ i _=>n1 - (intOf i).toNat)
 case atStart=>exact ⟨0,Nat.zero_le _,rfl,rfl,_,HN6.out⟩
 case round =>
  obtain ⟨q,hq,rfl,rfl,hI⟩:=hrel
  obtain ⟨vN1,hP⟩:=hI.out
  have HP:=hid hP
  obtain ⟨hGI,hGB⟩:=HC.out wr hP.mod
  obtain ⟨q0,q1⟩:=hGB.c
  have HGB:=hid hGB
  have hat:=HAT.out q (by omega)
  have hnl1:=putS_nm (nm:=nm) (a:=u) (cs:=cs) q (by omega)
  clear hI hP
  by_cases hlt : q < n1
  ·have hql : q < cs.length := by omega
   have HST:=hid (putS_take (nm:=nm) (a:=u) hql)
   obtain ⟨s,hs⟩ : ∃ s,s = putS nm u (cs.take q):=⟨_,rfl⟩
   rw [<- hs] at HST HP hat hnl1 ⊢
   clear hs
   obtain ⟨b,o,rfl,hlb,hc⟩:=hGI.nodes.some (by omega)
   obtain ⟨k1,k2,k3,ak,nk,ck,k4,k5⟩:=hc q hlt
   have hm : cs.getD q default∈cs:=by rw [List.getD_eq_getElem?_getD,List.getElem?_eq_getElem hql];exact List.getElem_mem _
   have hd:=HCND.out _ hm
   have hsz:=hd.size
   have hge:=of_decide_eq_true (List.all_eq_true.1 HGAL.out _ hm)
   have hlk:=k5.len
   have CS:=hid (size_any (cs.getD q default) ak ck wr (by have:=hd.kind;unfold I64;omega) (by have:=hd.text;omega) (by rw [hlk];exact k5.fits) (by have:=k5.most;unfold maxLen at this;omega) (by have:=hd.kids;omega) hd.int_)
   obtain ⟨d,hdd⟩ : ∃ d,d = cs.getD q default:=⟨_,rfl⟩
   rw [<- hdd] at k1 k2 k3 hsz CS HST hd hge hlk
   have HD:=hid hd
   have CP : Hid (∀ W6,Below wr.heap.size wr W6 -> sizeN d = 0 -> Calls Tryz.prog 92 #[.pointer (some ⟨gn,0,none⟩),NdVal d ak ck] W6 fun e w'=>e = .returned (.int .u64 (plainWd s.nm d)) /\ NPost B gn vN1 W6 (plainN s.nm d) w'):=fun W6 b6 e0=>by
    have h0:=(HP.out.on b6).hn
    exact nplain_any d ak ck W6 h0.names (Nat.le_trans HBB.out (Nat.le_trans HP.out.mod.size b6.size)) (by omega) (by have:=hd.kind;unfold I64;omega) hd.num (by have:=hd.text;omega) (size_zero hd e0)
   unfold NdVal at CS CP
   rw [hlk] at CS CP
   obtain ⟨z,hz⟩ : ∃ z,z = sizeN d:=⟨_,rfl⟩
   rw [<- hz] at CS hsz CP hge
   have HZ:=hid hz
   obtain ⟨sw,snm,sat⟩:=s
   obtain ⟨dk,dn,dt,dl⟩:=d
   simp only at k1 k2 k3 CS CP HP hat hnl1
   have HCELL : Hid (∀ W6,Below wr.heap.size wr W6 -> W6.cell? ⟨gc,0,none⟩ = some (.slice (some ⟨b,o,none⟩) n1 c1) /\ W6.cell? ⟨b,o + q * 4,none⟩ = some (.int .i64 dk) /\ W6.cell? ⟨b,o + q * 4 + 1,none⟩ = some (.int .i64 dn) /\ W6.cell? ⟨b,o + q * 4 + 2,none⟩ = some (.string dt) /\ W6.cell? ⟨b,o + q * 4 + 3,none⟩ = some (.slice ak nk ck)):=fun W6 b6=>by
    obtain ⟨e0,_⟩:=(HGB.out.on b6).c
    exact ⟨e0,(b6.cell (p:=⟨b,o + q * 4,none⟩) hlb).trans k1,(b6.cell (p:=⟨b,o + q * 4 + 1,none⟩) hlb).trans k2,(b6.cell (p:=⟨b,o + q * 4 + 2,none⟩) hlb).trans k3,(b6.cell (p:=⟨b,o + q * 4 + 3,none⟩) hlb).trans k4⟩
   clear hc hm hd hdd k5 hz hlk hGI hGB
   by_cases hz00 : z = 0
   ·have ez0 : (z == 0) = true := by simpa using hz00
    have HST2 : Hid (stepP ⟨sw,snm,sat⟩ ⟨dk,dn,dt,dl⟩ = ⟨sw ++ [plainWd snm ⟨dk,dn,dt,dl⟩],plainN snm ⟨dk,dn,dt,dl⟩,sat⟩):=by
     unfold Hid stepP;rw [if_pos (by rw [<- HZ.out];exact hz00)]
    have HZ0:=hid hz00
    obtain ⟨x,hx⟩ : ∃ x,x = plainWd snm ⟨dk,dn,dt,dl⟩:=⟨_,rfl⟩
    rw [<- hx] at HST2 CP
    clear hx hz00
    go_wp2_with (first
     | (go_at_call 91;(with_reducible refine CS.out.mono ?_);rintro e W6 ⟨rfl,b6⟩;have HP6:=hid (HP.out.on b6);obtain ⟨e0,e1,e2,e3,e4⟩:=HCELL.out W6 b6;have C6:=hid (CP.out W6 b6 HZ0.out);clear b6 q0 q1 k1 k2 k3 k4)
     | (go_at_call 92;(with_reducible refine C6.out.mono ?_);rintro e W7 ⟨rfl,p7⟩;obtain ⟨vN2,hP7⟩:=HP6.out.name p7;have HP7:=hid (hP7.on (Ba W7 (.cells #[.int .u64 x] 44)));have HX7 : Hid ((W7.alloc (.cells #[.int .u64 x] 44)).cell? ⟨W7.heap.size,0,none⟩ = some (.int .u64 x)):=blk_cell (blk_new W7 #[.int .u64 x] 44) 0;have HS7:=hid HP7.out.mod.size;clear p7 hP7 e0 e1 e2 e3 e4)
     | (at_builtin;refine appW rfl _ _ 23 rfl W5.heap.size 44 Tryz.underlying23 info_word _ q sw rfl HP7.out.row ⟨W7.heap.size,0,none⟩ 1 x rfl HX7.out (by omega) HS7.out ?_;intro g8 cap8 w8 ho8 hg8 hl8 hlt8))
    have H8:=hid (HP7.out.push ho8 hg8 hl8)
    refine ⟨⟨q + 1,by omega,by go_num,?_,vN2,?_⟩,by simp [intOf] <;> omega⟩
    ·rw [HST.out,HST2.out]
    ·rw [HST.out,HST2.out];exact H8.out
   ·have ez0 : (z == 0) = false := by simpa using hz00
    have HST2 : Hid (stepP ⟨sw,snm,sat⟩ ⟨dk,dn,dt,dl⟩ = ⟨sw ++ [wordR 2 (sat : Nat) 0],snm,sat + z.toNat⟩):=by
     unfold Hid stepP;rw [if_neg (by rw [<- HZ.out];exact hz00),<- HZ.out]
    have hzn : Hid ((sat : Int) + z = ((sat + z.toNat : Nat) : Int)):=by unfold Hid;omega
    have CT:=hid (rptr_any sat (by omega))
    obtain ⟨x,hx⟩ : ∃ x,x = wordR 2 ((sat : Nat) : Int) 0:=⟨_,rfl⟩
    rw [<- hx] at HST2 CT
    clear hx
    go_wp2_with (first
     | (go_at_call 91;(with_reducible refine CS.out.mono ?_);rintro e W6 ⟨rfl,b6⟩;have HP6:=hid (HP.out.on b6);have C6:=hid (CT.out W6);clear b6 q0 q1 k1 k2 k3 k4)
     | (go_at_call 93;(with_reducible refine C6.out.mono ?_);rintro e W7 ⟨rfl,b7⟩;have HP7:=hid ((HP6.out.on b7).on (Ba W7 (.cells #[.int .u64 x] 44)));have HX7 : Hid ((W7.alloc (.cells #[.int .u64 x] 44)).cell? ⟨W7.heap.size,0,none⟩ = some (.int .u64 x)):=blk_cell (blk_new W7 #[.int .u64 x] 44) 0;have HS7:=hid HP7.out.mod.size;clear b7)
     | (at_builtin;refine appW rfl _ _ 23 rfl W5.heap.size 44 Tryz.underlying23 info_word _ q sw rfl HP7.out.row ⟨W7.heap.size,0,none⟩ 1 x rfl HX7.out (by omega) HS7.out ?_;intro g8 cap8 w8 ho8 hg8 hl8 hlt8))
    have H8:=hid (HP7.out.push ho8 hg8 hl8)
    refine ⟨⟨q + 1,by omega,by go_num,?_,vN1,?_⟩,by simp [intOf] <;> omega⟩
    ·rw [HST.out,HST2.out];exact congrArg (Value.int .i64) hzn.out
    ·rw [HST.out,HST2.out];exact H8.out
  ·obtain rfl : q = n1 := by omega
   rw [List.take_of_length_le (by omega)] at HP
   have hwl:=putS_len (nm:=nm) (a:=u) (cs:=cs) cs.length (Nat.le_refl _)
   have hwu:=putS_u (nm:=nm) (a:=u) (cs:=cs) cs.length (Nat.le_refl _)
   rw [List.take_of_length_le (Nat.le_refl _)] at hwl hwu
   obtain ⟨S,hS⟩ : ∃ S,S = putS nm u cs:=⟨_,rfl⟩
   rw [<- hS] at HP hwl hwu HR
   obtain ⟨sw,snm,sat⟩:=S
   simp only at HP hwl hwu HR
   have HWU:=hid hwu
   have HWL:=hid hwl
   obtain ⟨aw,cw,hv,hcw1,hcw2⟩:=slice_form HP.out.row
   subst hv
   have HUR : Hid (∀ wx,wx.ownsRow W5.heap.size 44 1 (.slice aw q cw) q (uz sw) -> URow wx aw q cw sw):=fun wx ho=>by
    have e : sw.length = q:=by rw [HWL.out];exact h5
    rw [<- e] at ho
    obtain ⟨a',c',hv',hr'⟩:=urow_own ho HWU.out
    rw [e] at hv' hr'
    cases hv'
    exact hr'
   have H0 : Hid (∃ vL' ls',ls'.map Prod.fst = putO N sw (ls.map Prod.fst) (cs.take 0) /\ PQ B g gn N F W5 vL' ls' vN1 snm (.slice aw q cw) q sw wr):=⟨vL,ls,rfl,HP.out⟩
   obtain ⟨os,hos⟩ : ∃ os,os = ls.map Prod.fst:=⟨_,rfl⟩
   rw [<- hos] at H0 HR
   clear hS hwl hwu hGI hGB HGB hat hnl1 HP HN6 HAT hos
   go_wp2_with fail
   clear q0 q1
   go_loopw [14] (fun i wr=>∃ m : Nat,m <= q /\ i = .int .i64 m /\ Hid (∃ vL' ls',ls'.map Prod.fst = putO N sw os (cs.take m) /\ PQ B g gn N F W5 vL' ls' vN1 snm (.slice aw q cw) q sw wr)) (fun i _=>q - (intOf i).toNat)
   case atStart=>exact ⟨0,Nat.zero_le _,rfl,H0.out⟩
   case round =>
    obtain ⟨m,hm,rfl,hI⟩:=hrel
    obtain ⟨vL1,ls1,hls,hP⟩:=hI.out
    have HP:=hid hP
    have HLS:=hid hls
    obtain ⟨hGI,hGB⟩:=HC.out wr hP.mod
    obtain ⟨q0,q1⟩:=hGB.c
    have HGB:=hid hGB
    clear hI hP hls
    by_cases hlt : m < q
    ·have hql : m < cs.length := by omega
     have HST:=hid (putO_take (N:=N) (ws:=sw) (os:=os) hql)
     obtain ⟨b,o,rfl,hlb,hc⟩:=hGI.nodes.some (by omega)
     obtain ⟨k1,k2,k3,ak,nk,ck,k4,k5⟩:=hc m hlt
     have hmm : cs.getD m default∈cs:=by rw [List.getD_eq_getElem?_getD,List.getElem?_eq_getElem hql];exact List.getElem_mem _
     have hd:=HCND.out _ hmm
     have hsz:=hd.size
     have hkp:=HKP.out _ hmm
     have hlk:=k5.len
     have K5:=hid k5
     have CS:=hid (size_any (cs.getD m default) ak ck wr (by have:=hd.kind;unfold I64;omega) (by have:=hd.text;omega) (by rw [hlk];exact k5.fits) (by have:=k5.most;unfold maxLen at this;omega) (by have:=hd.kids;omega) hd.int_)
     obtain ⟨d,hdd⟩ : ∃ d,d = cs.getD m default:=⟨_,rfl⟩
     rw [<- hdd] at k1 k2 k3 hsz CS HST hd hlk hkp K5
     have CF : Hid (∀ W6,Below wr.heap.size wr W6 -> 0 < sizeN d -> Calls Tryz.prog 94 #[NdVal d ak ck,.slice aw q cw] W6 (FldPost d sw W6)):=fun W6 b6 e0=>fields_any d ak ck aw q cw sw W6 e0 hd.int_ (by have:=hd.text;omega) (by rw [hlk];exact K5.out.below b6) (HUR.out W6 (HP.out.on b6).row) (fun k hk=>by have:=hkp k hk;omega) (by have:=hd.kids;omega)
     have HFL : Hid (0 < sizeN d -> ((fieldsL d sw).length : Int) + 1 = sizeN d):=fieldsL_len
     unfold NdVal at CS CF
     rw [hlk] at CS CF
     obtain ⟨z,hz⟩ : ∃ z,z = sizeN d:=⟨_,rfl⟩
     rw [<- hz] at CS hsz CF HFL HST
     have HFU:=hid (fieldsL_u d (ws:=sw) HWU.out)
     have HKZ:=hid (fieldsK_z d)
     unfold FldPost at CF
     obtain ⟨fl,hfl⟩ : ∃ l,l = fieldsL d sw:=⟨_,rfl⟩
     obtain ⟨fk,hfk⟩ : ∃ l,l = fieldsK d:=⟨_,rfl⟩
     rw [<- hfl] at CF HFL HFU HST
     rw [<- hfk] at CF HKZ HST
     obtain ⟨dk,dn,dt,dl⟩:=d
     simp only at k1 k2 k3 CS CF
     have HCELL : Hid (∀ W6,Below wr.heap.size wr W6 -> W6.cell? ⟨gc,0,none⟩ = some (.slice (some ⟨b,o,none⟩) q c1) /\ W6.cell? ⟨b,o + m * 4,none⟩ = some (.int .i64 dk) /\ W6.cell? ⟨b,o + m * 4 + 1,none⟩ = some (.int .i64 dn) /\ W6.cell? ⟨b,o + m * 4 + 2,none⟩ = some (.string dt) /\ W6.cell? ⟨b,o + m * 4 + 3,none⟩ = some (.slice ak nk ck)):=fun W6 b6=>by
      obtain ⟨e0,_⟩:=(HGB.out.on b6).c
      exact ⟨e0,(b6.cell (p:=⟨b,o + m * 4,none⟩) hlb).trans k1,(b6.cell (p:=⟨b,o + m * 4 + 1,none⟩) hlb).trans k2,(b6.cell (p:=⟨b,o + m * 4 + 2,none⟩) hlb).trans k3,(b6.cell (p:=⟨b,o + m * 4 + 3,none⟩) hlb).trans k4⟩
     clear hc hmm hd hdd k5 K5 hz hlk hGI hGB hkp hfl hfk
     by_cases hz00 : 0 < z
     ·have ez0 : decide (0 < z) = true := decide_eq_true hz00
      rw [if_pos hz00] at HST
      have hfn : fl.length <= 10000:=by have:=HFL.out hz00;omega
      have CA : Hid (∀ W8 ao cap,PQ B g gn N F W5 vL1 ls1 vN1 snm (.slice aw q cw) q sw W8 -> URow W8 ao fl.length cap fl -> Calls Tryz.prog 70 #[.pointer (some ⟨g,0,none⟩),.int .i64 fk,.slice ao fl.length cap] W8 fun e w'=>e = .returned (.tuple #[.int .u64 (allocM (ls1.map Prod.fst) N fk fl).1,.int .i64 (allocM (ls1.map Prod.fst) N fk fl).2]) /\ RPost B g N vL1 ls1 W8 (allocO (ls1.map Prod.fst) N fk fl) w'):=fun W8 ao cap hp hu=>ralloc_any fk HKZ.out ao fl.length cap fl W8 hp.hn.heap hu (Nat.le_trans HBB.out hp.mod.size) (by omega)
      rw [HLS.out] at CA
      have HZ0:=hid hz00
      obtain ⟨fn,hfn2⟩ : ∃ n,n = fl.length:=⟨_,rfl⟩
      have HFN:=hid hfn2
      clear hz00 hfn2
      go_wp2_with (first
       | (go_at_call 91;(with_reducible refine CS.out.mono ?_);rintro e W6 ⟨rfl,b6⟩;have HP6:=hid (HP.out.on b6);obtain ⟨e0,e1,e2,e3,e4⟩:=HCELL.out W6 b6;have C6:=hid (CF.out W6 b6 HZ0.out);clear b6 q0 q1 k1 k2 k3 k4)
       | (go_at_call 94;(with_reducible refine C6.out.mono ?_);rintro e W7 ⟨fv,rfl,fo,b7⟩;have HP7:=hid (HP6.out.on b7);obtain ⟨af,cf,rfl,fr⟩:=urow_own fo HFU.out;have C7:=hid (CA.out W7 af cf HP7.out fr);have hcf1:=fr.fits;have hcf2:=fr.most;clear fo fr b7 e0 e1 e2 e3 e4)
       | (go_at_call 70;(with_reducible refine C7.out.mono ?_);rintro e W8 ⟨rfl,p8⟩;have HR8:=hid p8;clear p8))
      obtain ⟨vL2,ls2,j1,j2⟩:=HP7.out.heap HR8.out
      exact ⟨⟨m + 1,by omega,by go_num,vL2,ls2,by rw [j1,HST.out],j2⟩,by simp [intOf] <;> omega⟩
     ·have ez0 : decide (0 < z) = false := decide_eq_false hz00
      rw [if_neg hz00] at HST
      go_wp2_with (go_at_call 91;(with_reducible refine CS.out.mono ?_);rintro e W6 ⟨rfl,b6⟩;have HP6:=hid (HP.out.on b6);clear b6 q0 q1 k1 k2 k3 k4)
      exact ⟨⟨m + 1,by omega,by go_num,vL1,ls1,by rw [HST.out];exact HLS.out,HP6.out⟩,by simp [intOf] <;> omega⟩
    ·obtain rfl : m = q := by omega
     rw [List.take_of_length_le (by omega)] at HLS
     have HGI:=hid hGI
     have HRR:=hid hGI.roots
     clear hGI hGB
     go_wp2_with fail
     clear q0 q1
     obtain ⟨W9,hW9⟩ : ∃ W,W = wr:=⟨_,rfl⟩
     subst hW9
     go_loopw [17,18] (fun v i wr=>∃ k : Nat,k <= n2 /\ i = .int .i64 k /\ Hid (wr.ownsRow W9.heap.size 44 1 v k (uz ((crs.take k).map (fun i : Int=>sw.getD i.toNat 0))) /\ Below W9.heap.size W9 wr)) (fun _ i _=>n2 - (intOf i).toNat)
     case atStart=>exact ⟨0,Nat.zero_le _,rfl,World.ownsRow_nil _ _ _ _,Below.refl _ _⟩
     case round =>
      obtain ⟨k,hk,rfl,hI⟩:=hrel
      have HOQ:=hid hI.out.1
      have HBQ:=hid hI.out.2
      obtain ⟨q0,q1⟩:=(HGB.out.on HBQ.out).c
      clear hI
      by_cases hlt2 : k < n2
      ·have hkl : Hid (k < crs.length) := by unfold Hid; omega
       have hxb : 0 <= crs.getD k 0 /\ crs.getD k 0 < cs.length:=by
        rw [List.getD_eq_getElem?_getD,List.getElem?_eq_getElem hkl.out];exact HRP.out _ (List.getElem_mem _)
       obtain ⟨b,o,rfl,hlb,hcc⟩:=(HRR.out.below HBQ.out).some (by omega)
       have hck:=hcc k hlt2
       have HT:=hid (map_take (fun i : Int=>sw.getD i.toNat 0) hkl.out)
       obtain ⟨x,hx⟩ : ∃ x : Nat,crs.getD k 0 = (x : Int):=⟨(crs.getD k 0).toNat,by omega⟩
       rw [hx] at hck HT hxb
       have hU:=HUR.out wr (HP.out.on HBQ.out).row
       have hxn : x < m:=by omega
       obtain ⟨b2,o2,rfl,hlb2,hcc2⟩:=hU.some (by omega)
       have hcw:=hcc2 x hxn
       have HT' : Hid ((crs.take (k + 1)).map (fun i : Int=>sw.getD i.toNat 0) = (crs.take k).map (fun i : Int=>sw.getD i.toNat 0) ++ [sw.getD x 0]):=by
        unfold Hid;rw [HT.out,Int.toNat_natCast]
       have hzu : Hid (U64 (sw.getD x 0)):=by
        have:=HWL.out
        unfold Hid;rw [List.getD_eq_getElem?_getD,List.getElem?_eq_getElem (by omega)];exact HWU.out _ (List.getElem_mem _)
       obtain ⟨zx,hzx⟩ : ∃ z,z = sw.getD x 0:=⟨_,rfl⟩
       rw [<- hzx] at hcw HT' hzu
       have HO1:=hid (uown_on HOQ.out (Ba wr (.cells #[.int .u64 zx] 44)))
       have HX7 : Hid ((wr.alloc (.cells #[.int .u64 zx] 44)).cell? ⟨wr.heap.size,0,none⟩ = some (.int .u64 zx)):=blk_cell (blk_new wr #[.int .u64 zx] 44) 0
       have HBA:=hid (HBQ.out.trans ((Ba wr (.cells #[.int .u64 zx] 44)).mono HBQ.out.size))
       have HSA:=hid HBA.out.size
       clear hcc hcc2 hzx hU HT hx hxb
       go_wp2_with (at_builtin;refine appW rfl _ _ 23 rfl W9.heap.size 44 Tryz.underlying23 info_word _ k ((crs.take k).map (fun i : Int=>sw.getD i.toNat 0)) rfl HO1.out ⟨wr.heap.size,0,none⟩ 1 zx rfl HX7.out (by omega) HSA.out ?_;intro g8 cap8 w8 ho8 hg8 hl8 hlt8)
       have HE : Hid (Below W9.heap.size W9 w8):=HBA.out.grown hg8 HSA.out (fun b hb=>(HO1.out.lt b hb).1)
       refine ⟨⟨k + 1,by omega,by go_num,?_,HE.out⟩,by simp [intOf] <;> omega⟩
       rw [HT'.out];exact ho8
      ·obtain rfl : k = n2 := by omega
       have hO:=HOQ.out
       rw [List.take_of_length_le (by omega)] at hO
       have HO9:=hid hO
       clear hO HOQ
       go_wp2_with fail
       go_ret2
       rw [HR.out]
       refine ⟨_,rfl,?_,?_⟩
       ·show wr.ownsRow w.heap.size 44 1 _ (crs.map (fun i : Int => sw.getD i.toNat 0)).length (uz (crs.map (fun i : Int => sw.getD i.toNat 0)))
        rw [List.length_map,h6]
        exact own_weak HO9.out (Nat.le_trans hWs.out HP.out.mod.size)
       ·have := (HP.out.post HB5.out).behind HBQ.out
        rw [HLS.out,HFE.out] at this
        exact this
theorem say {k n t : Int} (h : rightB k n t = true) (hk : k ≠ 8) (ht : t = 0) : nK (wordR k n t) = k /\ nN (wordR k n t) = n:=by
 have:=word_back (k:=k) (n:=n) (t:=t) h
 unfold nK nN
 subst ht
 rw [this]
 exact ⟨rfl,rfl⟩
theorem idL_pre (ls : List ByteArray) (s : ByteArray) : ls <+: idL ls s:=by
 unfold idL;split
 ·exact List.prefix_refl _
 ·exact List.prefix_append _ _
theorem step_pre (s : PS) (d : Nd) : s.nm <+: (stepP s d).nm:=by
 unfold stepP
 split
 ·show s.nm <+: plainN s.nm d
  unfold plainN
  split
  ·exact idL_pre _ _
  ·exact List.prefix_refl _
 ·exact List.prefix_refl _
theorem putS_pre {nm : List ByteArray} {a : Nat} {cs : List Nd} {q : Nat} : ∀ {p : Nat},q <= p -> p <= cs.length -> (putS nm a (cs.take q)).nm <+: (putS nm a (cs.take p)).nm:=fun {p}=>by
 induction p with
 | zero => intro h _; obtain rfl : q = 0 := by omega
           exact List.prefix_refl _
 | succ p ih =>
  intro h hp
  by_cases e : q = p + 1
  ·subst e;exact List.prefix_refl _
  ·rw [putS_take (q := p) (by omega)]
   exact (ih (by omega) (by omega)).trans (step_pre _ _)
theorem putS_ws {nm : List ByteArray} {a : Nat} {cs : List Nd} : ∀ {p q : Nat},q < p -> p <= cs.length -> (putS nm a (cs.take p)).ws.getD q 0 = (putS nm a (cs.take (q + 1))).ws.getD q 0:=fun {p q}=>by
 induction p with
 | zero=>intro h _;omega
 | succ p ih =>
  intro h hp
  by_cases e : q = p
  ·subst e;rfl
  ·have hl := putS_len (nm := nm) (a := a) (cs := cs) p (by omega)
   rw [<- ih (by omega) (by omega),putS_take (q:=p) (by omega)]
   unfold stepP
   split
   ·show ((putS nm a (cs.take p)).ws ++ [_]).getD q 0 = _
    rw [List.getD_eq_getElem?_getD,List.getElem?_append_left (by omega),<- List.getD_eq_getElem?_getD]
   ·show ((putS nm a (cs.take p)).ws ++ [_]).getD q 0 = _
    rw [List.getD_eq_getElem?_getD,List.getElem?_append_left (by omega),<- List.getD_eq_getElem?_getD]
theorem putS_word {nm : List ByteArray} {a : Nat} {cs : List Nd} {i : Nat} (h : i < cs.length) : (putS nm a cs).ws.getD i 0 = if sizeN (cs.getD i default) = 0 then plainWd (putS nm a (cs.take i)).nm (cs.getD i default) else wordR 2 ((putS nm a (cs.take i)).at_ : Nat) 0:=by
 have hl:=putS_len (nm:=nm) (a:=a) (cs:=cs) i (by omega)
 have e : (putS nm a cs).ws.getD i 0 = (putS nm a (cs.take (i + 1))).ws.getD i 0:=by
  have:=putS_ws (nm:=nm) (a:=a) (cs:=cs) (p:=cs.length) (q:=i) h (Nat.le_refl _)
  rw [List.take_length] at this
  exact this
 rw [e,putS_take h]
 unfold stepP
 split
 ·show ((putS nm a (cs.take i)).ws ++ [_]).getD i 0 = _
  rw [List.getD_eq_getElem?_getD,List.getElem?_append_right (by omega),hl,Nat.sub_self];rfl
 ·show ((putS nm a (cs.take i)).ws ++ [_]).getD i 0 = _
  rw [List.getD_eq_getElem?_getD,List.getElem?_append_right (by omega),hl,Nat.sub_self];rfl
theorem node_parts {n : Nat} {d : Nd} (h : nodeB n d = true) : 1 <= d.kind /\ d.kind <= 17 /\ numB d.kind d.num = true /\ textB d.kind d.text = true /\ countB d.kind d.kids.length = true /\ placesB d.kids n = true:=by
 unfold nodeB at h
 simp only [Bool.and_eq_true,decide_eq_true_eq] at h
 obtain ⟨⟨⟨⟨⟨h1,h2⟩,h3⟩,h4⟩,h5⟩,h6⟩:=h
 exact ⟨h1,h2,h3,h4,h5,h6⟩
theorem no_kids {k : Int} {l : List Int} (h : countB k l.length = true) (h1 : k ≠ 7) (h2 : k ≠ 13) (h3 : k ≠ 8) (h4 : k ≠ 15) (h5 : k ≠ 16) : l = []:=by
 rw [countB_o _ h1 h2 h3 h4 h5] at h
 exact List.length_eq_zero_iff.1 (of_decide_eq_true h)
end Go.Proofs.YticimejfjjmikaaGreatDoor
