import Derived.Test.YticimejfjjmikaaGreatDoorSL12
import Derived.Test.YticimejfjjmikaaGreatDoorSL3
import Derived.Test.YticimejfjjmikaaGreatDoorQ1
import Derived.Test.YticimejfjjmikaaGreatDoorV4
import Derived.Test.YticimejfjjmikaaGreatDoorST5
import Derived.Test.YticimejfjjmikaaGreatDoorSL31
import Derived.Deep.QuietTactic
import Derived.BigQuiet
import Derived.Test.YticimejfjjmikaaGreatDoorQ9
import Derived.Test.YticimejfjjmikaaGreatDoorG21
import Derived.Test.YticimejfjjmikaaGreatDoorJ1
import Derived.Test.YticimejfjjmikaaGreatDoorU0
import Derived.Test.YticimejfjjmikaaGreatDoorST11
import Derived.Test.YticimejfjjmikaaGreatDoorSG6
set_option linter.unusedVariables false
set_option linter.unusedSimpArgs false
set_option maxRecDepth 100000
namespace Go.Proofs.YticimejfjjmikaaGreatDoor
open Go.RowKit
section
variable {B : Nat} {v vn : Value} {N : Int} {os : List Ob} {nm : List ByteArray} {F : Nat -> Prop}
def SPutP (B : Nat) (v vn : Value) (N : Int) (F : Nat -> Prop) (w : World) (r : List Int × Int × List Ob × List ByteArray) (e : Ending) (w' : World) : Prop :=
 ∃ ao cap, e = .returned (.tuple #[.slice ao r.1.length cap, .int .i64 r.2.1]) /\ URow w' ao r.1.length cap r.1 /\
   ∃ F',PN B v vn N r.2.2.1 r.2.2.2 F' w' /\ (∀ b,F' b -> F b \/ w.heap.size <= b) /\ Mod F w w' /\ (∀ a,ao = some a -> ¬ F' a.block) /\ (∀ a,ao = some a -> w.heap.size <= a.block)
theorem urow_nil (w : World) : URow w none 0 0 []:=⟨rfl,Nat.le_refl _,Nat.zero_le _,fun _=>rfl,fun z h=>(by cases h),.inl rfl⟩
set_option maxHeartbeats 8000000 in
theorem sput_is (an ar : Option Addr) (nn cn nr cr : Nat) (ns : List Nd) (rs : List Int) (w : World) (h : PN B v vn N os nm F w) (G : GOk w an nn cn ar nr cr ns rs) (hn : nn <= 100) (hnr : nr <= 100) (hB : B <= w.heap.size) (hnm : nm.length <= 900000) (hT : TabsS w) :
  Calls Tryz.prog 46 #[v,vn,GVal an nn cn ar nr cr] w (SPutP B v vn N F w (putR N os nm ns rs)):=by
 have b0:=Ba w (.cells #[.slice an nn cn,.slice ar nr cr] 34)
 have hx:=GBox.new 34 w an ar nn cn nr cr
 obtain ⟨c0,c1⟩:=hx.c
 have C:=hid (playable_any an ar nn cn nr cr ns rs (w.alloc (.cells #[.slice an nn cn,.slice ar nr cr] 34)) (G.below b0) hn (hT.1.below b0))
 have HB0:=hid b0
 have hlen : ns.length = nn:=G.is.nodes.len
 have hrl : rs.length = nr:=G.is.roots.len
 have f1:=G.is.nodes.fits
 have f2:=G.is.nodes.most
 have f3:=G.is.roots.fits
 have f4:=G.is.roots.most
 unfold maxLen at f2 f4
 have HH:=hid h
 have HL:=hid (layB_need ns rs)
 have HNL:=hid (needM_le (rs:=rs) G.small G.kids (by omega))
 have HN : Hid (layB ns rs = true -> _):=fun h=>layB_nodes h G.small G.kids (by omega)
 obtain ⟨bd1,bd2⟩:=h.bd
 obtain ⟨gh,gp,rfl,rfl⟩:=h.ptrs
 have HBB:=hid hB
 have HR : Hid (putR N os nm ns rs = if needM ns rs < 0 then ([],20,os,nm) else if N - (usedL os : Nat) < needM ns rs then ([],3,os,nm)
  else ((canonN ns rs).2.map (fun i : Int=>(putS nm (usedL os) (canonN ns rs).1).ws.getD i.toNat 0),0,putO N (putS nm (usedL os) (canonN ns rs).1).ws os (canonN ns rs).1,(putS nm (usedL os) (canonN ns rs).1).nm)):=rfl
 obtain ⟨R,hR⟩ : ∃ R,R = putR N os nm ns rs:=⟨_,rfl⟩
 rw [<- hR] at HR ⊢
 have nofail : Hid (∀ (k : Int) W,Below w.heap.size w W -> R = ([],k,os,nm) -> SPutP B (.pointer (some ⟨gh,0,none⟩)) (.pointer (some ⟨gp,0,none⟩)) N F w R (.returned (.tuple #[.slice none 0 0,.int .i64 k])) W):=fun k W b e=>by
  rw [e]
  exact ⟨none,0,rfl,urow_nil _,F,HH.out.on b,fun b e=>.inl e,Mod.of_below F b,fun a e=>(by cases e),fun a e=>(by cases e)⟩
 unfold LayableP at C
 unfold GVal at C ⊢
 rw [HL.out] at HR HNL
 clear G hT hx b0 h hB hR
 cases hb : layB ns rs
 ·simp only [hb, Bool.false_eq_true, ↓reduceIte] at C
  have e1 : (if layB ns rs = true then sumN (canonN ns rs).1 else -1) = -1:=by rw [hb];rfl
  rw [e1,if_pos (by omega)] at HR
  clear HN HL hb HNL
  go_enter Tryz.func46,Tryz.ntmps46
  go_wp2_with (go_at_call 84;(with_reducible refine C.out.mono ?_);rintro e W1 ⟨rfl,b1⟩;have HB1:=hid (Bt (Bt HB0.out b1) (Ba W1 (.cells #[.slice none 0 0,.slice none 0 0] 34)));clear b1)
  go_ret2
  exact nofail.out 20 _ HB1.out HR.out
 simp only [hb,↓reduceIte] at C
 have e1 : (if layB ns rs = true then sumN (canonN ns rs).1 else -1) = sumN (canonN ns rs).1:=by rw [hb];rfl
 rw [e1] at HR HNL
 clear e1
 obtain ⟨n1,n2,n3,n4,n5⟩:=HN.out hb
 have CW : Hid (∀ (a1 : Option Addr) (m1 c1 : Nat) (W : World),NRow W a1 m1 c1 (canonN ns rs).1 -> m1 <= 2500 -> Calls Tryz.prog 85 #[.slice a1 m1 c1] W fun e w'=>e = .returned (.int .i64 (sumN (canonN ns rs).1)) /\ Below W.heap.size W w'):=fun a1 m1 c1 W R hm=>pwords_any a1 m1 c1 _ W R (fun d hd=>(n1 d hd).1) hm
 have CR : Hid (∀ W,Below w.heap.size w W -> Calls Tryz.prog 86 #[.pointer (some ⟨gh,0,none⟩)] W fun e w'=>e = .returned (.int .i64 (N - (usedL os : Nat))) /\ Below W.heap.size W w'):=fun W b=>(HH.out.on b).room
 have hz0 : 0 <= sumN (canonN ns rs).1:=sumN_nonneg (fun d hd=>of_decide_eq_true (List.all_eq_true.1 n5 d hd))
 rw [if_neg (by omega)] at HR
 have hnl:=HNL.out
 obtain ⟨r,hr⟩ : ∃ r : Int,r = N - (usedL os : Nat):=⟨_,rfl⟩
 have hrr:=hr
 rw [<- hr] at CR HR
 have HN1:=hid n1
 have HN4:=hid n4
 have HN5:=hid n5
 clear HN HL hb HNL n1 n4 n5 hr
 obtain ⟨cs,hcs⟩ : ∃ c,c = (canonN ns rs).1:=⟨_,rfl⟩
 obtain ⟨crs,hcrs⟩ : ∃ c,c = (canonN ns rs).2:=⟨_,rfl⟩
 rw [<- hcs] at C CW n2 hz0 hnl HN1 HN4 HN5 HR
 rw [<- hcrs] at C n3 HN4 HR
 obtain ⟨z,hz⟩ : ∃ z,z = sumN cs:=⟨_,rfl⟩
 rw [<- hz] at CW hz0 hnl HR
 have HZ:=hid hz
 clear hcs hcrs hz
 by_cases hzr : r < z
 ·have er : decide (r < z) = true := decide_eq_true hzr
  rw [if_pos hzr] at HR
  clear HN1 HN4 HN5
  go_enter Tryz.func46,Tryz.ntmps46
  go_wp2_with (first
   | (go_at_call 84;(with_reducible refine C.out.mono ?_);rintro e W1 ⟨a1,m1,k1,a2,m2,k2,rfl,g1,_,b1⟩;have HB1:=hid (Bt (Bt HB0.out b1) (Ba W1 (.cells #[.slice a1 m1 k1,.slice a2 m2 k2] 34)));have hx1:=GBox.new 34 W1 a1 a2 m1 k1 m2 k2;obtain ⟨d0,d1⟩:=hx1.c;have h5:=g1.nodes.len;have C2:=hid (CW.out a1 m1 k1 _ (g1.nodes.below (Ba W1 (.cells #[.slice a1 m1 k1,.slice a2 m2 k2] 34))) (by omega));clear b1 g1 hx1 h5)
   | (go_at_call 85;(with_reducible refine C2.out.mono ?_);rintro e W2 ⟨rfl,b2⟩;have HB2:=hid (Bt HB1.out b2);have C3:=hid (CR.out W2 HB2.out);clear b2)
   | (go_at_call 86;(with_reducible refine C3.out.mono ?_);rintro e W3 ⟨rfl,b3⟩;have HB3:=hid (Bt HB2.out b3);clear b3))
  go_ret2
  exact nofail.out 3 _ HB3.out HR.out
 have er : decide (r < z) = false:=decide_eq_false hzr
 rw [if_neg hzr] at HR
 have hok : PutOk N os nm cs:=⟨fun d hd=>(HN1.out d hd).2,fun d hd=>(HN1.out d hd).1.c,HN5.out,by have:=HZ.out;omega,bd2,by omega⟩
 have HOK:=hid hok
 have hobj:=hok.objs
 rw [hobj] at HR
 have CA : Hid (∀ (b1 : Nat) (a1 : Option Addr) (m1 c1 : Nat) (W : World),Below w.heap.size w W -> w.heap.size <= b1 -> b1 <= W.heap.size -> cs.length = m1 -> (∀ wx : World,W.heap.size <= wx.heap.size -> (∀ b,b1 <= b -> b < W.heap.size -> wx.heap[b]? = W.heap[b]?) -> NRow wx a1 m1 c1 cs) -> Calls Tryz.prog 87 #[.pointer (some ⟨gh,0,none⟩),.pointer (some ⟨gp,0,none⟩),.slice a1 m1 c1] W (AllPost B (.pointer (some ⟨gh,0,none⟩)) (.pointer (some ⟨gp,0,none⟩)) N F W (putS nm (usedL os) cs).ws (os ++ objsOf (putS nm (usedL os) cs).ws cs) (putS nm (usedL os) cs).nm)):=fun b1 a1 m1 c1 W hb h1 h2 hl K =>
  layall_any a1 m1 c1 cs W b1 (HH.out.on hb) HOK.out (fun d hd=>(HN1.out d hd).1) (fun b e=>by have:=(HH.out.ge b e).2;omega) h2 hl K (by omega) (Nat.le_trans HBB.out hb.size) hnm
 have HWL : Hid ((putS nm (usedL os) cs).ws.length = cs.length):=by
  have:=putS_len (nm:=nm) (a:=usedL os) (cs:=cs) cs.length (Nat.le_refl _)
  rw [List.take_length] at this
  exact this
 have HWU : Hid (∀ z∈(putS nm (usedL os) cs).ws,U64 z):=by
  have:=putS_u (nm:=nm) (a:=usedL os) (cs:=cs) cs.length (Nat.le_refl _)
  rw [List.take_length] at this
  exact this
 have HRP : Hid (∀ k∈crs,0 <= k /\ k < cs.length):=places_rng (goodG_parts HN4.out).2
 obtain ⟨ws,hws⟩ : ∃ x,x = (putS nm (usedL os) cs).ws:=⟨_,rfl⟩
 obtain ⟨nm2,hnm2⟩ : ∃ x,x = (putS nm (usedL os) cs).nm:=⟨_,rfl⟩
 obtain ⟨os2,hos2⟩ : ∃ x,x = os ++ objsOf ws cs:=⟨_,rfl⟩
 rw [<- hws] at CA HWL HWU HR
 rw [<- hnm2] at CA HR
 rw [<- hos2] at CA HR
 have HF : Hid (∀ b,F b -> b < w.heap.size):=fun b e=>(HH.out.ge b e).2
 unfold AllPost at CA
 clear hok hobj hws hnm2 hos2 HN1 HN4 HN5 nofail HOK
 go_enter Tryz.func46,Tryz.ntmps46
 go_wp2_with (first
  | (go_at_call 84;(with_reducible refine C.out.mono ?_);rintro e W1 ⟨a1,m1,k1,a2,m2,k2,rfl,g1,gk1,b1⟩;have HBC:=hid (Ba W1 (.cells #[.slice a1 m1 k1,.slice a2 m2 k2] 34));have HB1:=hid (Bt (Bt HB0.out b1) HBC.out);have hx1:=GBox.new 34 W1 a1 a2 m1 k1 m2 k2;have HX1:=hid hx1;obtain ⟨d0,d1⟩:=hx1.c;have h5:=g1.nodes.len;have h6:=g1.roots.len;have h7:=g1.roots.fits;have h8:=g1.roots.most;have h9:=g1.nodes.fits;have h10:=g1.nodes.most;have C2:=hid (CW.out a1 m1 k1 _ (g1.nodes.below HBC.out) (by omega));have HGK:=hid gk1;have HSB:=hid b1.size;clear b1 g1 gk1 hx1)
  | (go_at_call 85;(with_reducible refine C2.out.mono ?_);rintro e W2 ⟨rfl,b2⟩;have HB2:=hid (Bt HB1.out b2);have HBL2:=hid b2;have C3:=hid (CR.out W2 HB2.out);clear b2)
  | (go_at_call 86;(with_reducible refine C3.out.mono ?_);rintro e W3 ⟨rfl,b3⟩;have HB3:=hid (Bt HB2.out b3);have HBL3:=hid (Bt HBL2.out b3);have hx3:=HX1.out.on HBL3.out;have HX3:=hid hx3;obtain ⟨e0,e1⟩:=hx3.c;have hs3 : Hid (W1.heap.size + 1 <= W3.heap.size):=(by have:=HBL3.out.size;rw [size_alloc] at this;exact this);have hag : Hid (∀ b,b < W1.heap.size -> W3.heap[b]? = W1.heap[b]?):=(fun b hb=>(HBL3.out.block b (by rw [size_alloc];omega)).trans (HBC.out.block b hb));have C4:=hid (CA.out (w.heap.size + 1) a1 m1 k1 W3 HB3.out (by omega) (by have:=HB3.out.size;have:=hs3.out;have:=HSB.out;rw [size_alloc] at this;omega) h5 (fun wx hz1 hz2=>(HGK.out wx (by have:=hs3.out;omega) (fun b q1 q2=>by rw [size_alloc] at q1;rw [hz2 b (by omega) (by have:=hs3.out;omega)];exact hag.out b q2)).nodes));clear b3 hx3)
  | (go_at_call 87;(with_reducible refine C4.out.mono ?_);rintro e W4 ⟨gw,rfl,q1,q2,F4,q3,q4,q5,q6⟩;have HGW:=hid q1;have HROW:=hid q2;have HP4:=hid q3;have HF4:=hid q4;have HO4:=hid q5;have HM4:=hid q6;have hx4:=(q6.block W1.heap.size (by have:=hs3.out;omega) (fun e=>by have:=HF.out _ e;have:=HB0.out.size;have:=HSB.out;rw [size_alloc] at *;omega)).trans HX3.out;have HX4:=hid hx4;have y1 : W4.cell? ⟨W1.heap.size,1,none⟩ = some (.slice a2 m2 k2):=blk_cell hx4 1;clear q1 q2 q3 q4 q5 q6 hx4))
 unfold maxLen at h8 h10
 have HGI : Hid (IRow W4 a2 m2 k2 crs):=by
  refine (HGK.out W4 (by have:=hs3.out;have:=HM4.out.size;omega) (fun b q1 q2=>?_)).roots
  rw [size_alloc] at q1
  rw [HM4.out.block b (by have:=hs3.out;omega) (fun e=>by have:=HF.out _ e;omega)]
  exact hag.out b q2
 have HWC : Hid (∀ W,Below W4.heap.size W4 W -> ∀ k,k < ws.length -> W.cell? ⟨gw,k,none⟩ = some (.int .u64 (ws.getD k 0))):=fun W b k hk=>by
  rw [b.cell (p:=⟨gw,k,none⟩) (Array.getElem?_eq_some_iff.1 HROW.out).1,blk_cell HROW.out,List.getElem?_toArray,uz_get hk]
 have hwl:=HWL.out
 have HBW4 : Hid (w.heap.size <= W4.heap.size):=Nat.le_trans HB3.out.size HM4.out.size
 obtain ⟨nw,hnw⟩ : ∃ n,n = ws.length:=⟨_,rfl⟩
 rw [<- hnw] at hwl HWC ⊢
 obtain ⟨f,hf⟩ : ∃ f : Int -> Int,f = fun i : Int=>ws.getD i.toNat 0:=⟨_,rfl⟩
 have HFE:=hid hf
 have HFU : Hid (∀ l : List Int,∀ z∈l.map f,U64 z):=fun l z hz=>by
  obtain ⟨i,_,rfl⟩:=List.mem_map.1 hz
  rw [HFE.out]
  show U64 (ws.getD i.toNat 0)
  by_cases hi : i.toNat < ws.length
  ·exact HWU.out _ (getD_in_f hi)
  ·rw [List.getD_eq_getElem?_getD,List.getElem?_eq_none (by omega)];exact ⟨by decide,by decide⟩
 rw [<- hf] at HR
 have H5:=hid h5
 have H6:=hid h6
 have HW2:=hid hwl
 have hm2 : m2 <= 100:=by omega
 clear e0 e1 d0 d1 hnw hf h5 h6 hwl hrr n3 hlen hrl
 go_loopw [11,13,35] (fun v _ i wr=>∃ q : Nat,q <= m2 /\ i = .int .i64 q /\ Hid (wr.ownsRow W4.heap.size 44 1 v q (uz ((crs.take q).map f)) /\ Below W4.heap.size W4 wr)) (fun _ _ i _=>m2 - (intOf i).toNat)
 case atStart=>exact ⟨0,Nat.zero_le _,rfl,World.ownsRow_nil _ _ _ _,Below.refl _ _⟩
 case round =>
  obtain ⟨q,hq,rfl,hI⟩:=hrel
  have HOQ:=hid hI.out.1
  have HBQ:=hid hI.out.2
  clear hI
  by_cases hlt : q < m2
  ·have h5 := H5.out
   have h6:=H6.out
   have hwl:=HW2.out
   obtain ⟨b,o,rfl,hlb,hc⟩:=(HGI.out.below HBQ.out).some (by omega)
   have c5:=hc q hlt
   have hin:=HRP.out _ (getD_in_f (l:=crs) (i:=q) (by omega))
   obtain ⟨m,hm⟩ : ∃ m : Nat,crs.getD q 0 = (m : Int):=⟨(crs.getD q 0).toNat,by omega⟩
   have HT:=hid (map_take f (l:=crs) (q:=q) (by omega))
   have HFM : Hid (f (m : Int) = ws.getD m 0):=by unfold Hid;rw [HFE.out];rfl
   rw [hm] at c5 hin HT
   rw [HFM.out] at HT
   have x1:=HWC.out wr HBQ.out m (by omega)
   obtain ⟨zx,hzx⟩ : ∃ z,z = ws.getD m 0:=⟨_,rfl⟩
   rw [<- hzx] at x1 HT
   have hzu : Hid (U64 zx):=by unfold Hid;rw [hzx];have:=HWL.out;exact HWU.out _ (getD_in_f (by omega))
   have HO1:=hid (uown_on HOQ.out (Ba wr (.cells #[.int .u64 zx] 44)))
   have HU1:=hid (urow_one (blk_new wr #[.int .u64 zx] 44) hzu.out)
   have HBA:=hid (HBQ.out.trans ((Ba wr (.cells #[.int .u64 zx] 44)).mono HBQ.out.size))
   have HSA:=hid HBA.out.size
   have hmn : m < nw:=by omega
   clear hc hm hzx h5 h6 hwl hin
   go_wp2_with (at_builtin;refine appU rfl _ _ 23 rfl W4.heap.size 44 Tryz.underlying23 info_word _ q ((crs.take q).map f) rfl HO1.out (some ⟨wr.heap.size,0,none⟩) 1 1 [zx] rfl HU1.out (by omega) HSA.out ?_;intro v2 w2 ho2 hg2)
   have HE : Hid (Below W4.heap.size W4 w2):=HBA.out.grown hg2 HSA.out (fun b hb=>(HO1.out.lt b hb).1)
   refine ⟨⟨q + 1,by omega,by go_num,?_,HE.out⟩,by simp [intOf] <;> omega⟩
   rw [HT.out];exact ho2
  ·obtain rfl : m2 = q := by omega
   have hoq:=HOQ.out
   rw [List.take_of_length_le (by rw [H6.out];exact Nat.le_refl _)] at hoq
   have hml : (crs.map f).length = m2:=by rw [List.length_map];exact H6.out
   rw [<- hml] at hoq
   obtain ⟨ao,cap,hv,hu⟩:=urow_own hoq (HFU.out crs)
   rw [hml] at hv hu
   subst hv
   have HU:=hid hu
   have HLT : Hid (∀ a,ao = some a -> W4.heap.size <= a.block):=fun a e=>(hoq.lt a.block (by rw [e];rfl)).1
   have HML:=hid hml
   clear hoq hu hml
   go_wp2_with fail
   go_ret2
   rw [HR.out]
   unfold SPutP
   simp only
   rw [HML.out]
   refine ⟨ao,cap,rfl,HU.out,F4,HP4.out.on HBQ.out,fun b e=>?_,((Mod.of_below F HB3.out).trans HM4.out (fun _ _ e=>e)).trans (Mod.of_below F HBQ.out) (fun _ _ e=>e),fun a e hf=>?_,fun a e=>?_⟩
   ·rcases HF4.out b e with e | e
    ·exact .inl e
    ·exact .inr (Nat.le_trans HB3.out.size e)
   ·have h1 := HLT.out a e
    have h2:=(HP4.out.ge _ hf).2
    omega
   ·have h1 := HLT.out a e
    have:=HBW4.out
    omega
theorem sput_any (an ar : Option Addr) (nn cn nr cr : Nat) (ns : List Nd) (rs : List Int) (w : World) (h : PN B v vn N os nm F w) (G : GOk w an nn cn ar nr cr ns rs) (hn : nn <= 100) (hnr : nr <= 100) (hB : B <= w.heap.size) (hnm : nm.length <= 900000) (hT : TabsS w) :
  Calls Tryz.prog 46 #[v,vn,GVal an nn cn ar nr cr] w fun e w'=>∃ ao cap,e = .returned (.tuple #[.slice ao (putR N os nm ns rs).1.length cap,.int .i64 (putR N os nm ns rs).2.1]) /\ URow w' ao (putR N os nm ns rs).1.length cap (putR N os nm ns rs).1 /\
   ∃ F',PN B v vn N (putR N os nm ns rs).2.2.1 (putR N os nm ns rs).2.2.2 F' w' /\ (∀ b,F' b -> F b \/ w.heap.size <= b) /\ Mod F w w' /\ (∀ a,ao = some a -> ¬ F' a.block) /\ (∀ a,ao = some a -> w.heap.size <= a.block) :=
 sput_is an ar nn cn nr cr ns rs w h G hn hnr hB hnm hT
end
section
variable {N : Int} {os : List Ob} {nm : List ByteArray} {ns cs : List Nd} {rs crs : List Int}
structure PutDone (N : Int) (os : List Ob) (nm : List ByteArray) (ns : List Nd) (rs : List Int) : Prop where
 ok : PutOk N os nm (canonN ns rs).1
 good : goodG ns rs = true
 goodC : goodG (canonN ns rs).1 (canonN ns rs).2 = true
 ord : Ordered (canonN ns rs).1 (canonN ns rs).2
 fineC : Fine (canonN ns rs).1 (canonN ns rs).2 300001
 again : canonG (canonN ns rs).1 (canonN ns rs).2 300001 = canonN ns rs
 len : (canonN ns rs).1.length <= ns.length /\ (canonN ns rs).2.length = rs.length
 small : ∀ d∈(canonN ns rs).1,d.text.size <= 2000 /\ d.kids.length <= 100
 words : (putR N os nm ns rs).1 = pR nm os (canonN ns rs).1 (canonN ns rs).2
 objs : (putR N os nm ns rs).2.2.1 = pO nm os (canonN ns rs).1
 names : (putR N os nm ns rs).2.2.2 = (putS nm (usedL os) (canonN ns rs).1).nm
 need : needM ns rs = sumN (canonN ns rs).1
theorem put_done (h : (putR N os nm ns rs).2.1 = 0) (hs : smallG ns) (hk : ∀ d∈ns,d.kids.length <= 100) (hn : ns.length <= 100) (hN : N <= 4194304) (hnm : nm.length <= 900000) : PutDone N os nm ns rs:=by
 have hneg : ¬ needM ns rs < 0:=fun e=>by
  unfold putR at h;rw [if_pos e] at h;exact absurd (show (20 : Int) = 0 from h) (by decide)
 have hroom : ¬ N - (usedL os : Nat) < needM ns rs:=fun e=>by
  unfold putR at h;rw [if_neg hneg,if_pos e] at h;exact absurd (show (3 : Int) = 0 from h) (by decide)
 obtain ⟨hg,hsz,hsum⟩:=needM_pos hneg
 have hF : Fine ns rs 300001:=⟨hg,hk,by omega,by omega⟩
 have hgc : goodG (canonN ns rs).1 (canonN ns rs).2 = true:=hF.goodC
 have hlen:=hF.len
 have hsm:=hF.smallC hs
 have hkc:=hF.kidsC
 have hFc : Fine (canonN ns rs).1 (canonN ns rs).2 300001:=⟨hgc,hkc,by have:=hlen.1;show (canonN ns rs).1.length <= 2500;unfold canonN;omega,by have:=hlen.1;show 1 + 100 * (canonN ns rs).1.length <= 300001;unfold canonN;omega⟩
 have hok : PutOk N os nm (canonN ns rs).1:=⟨goodG_nodes hgc,fun d hd=>CNd.of (goodG_nodes hgc d hd) (hsm d hd) (hkc d hd),hsz,by omega,hN,by have:=hlen.1;show nm.length + (canonN ns rs).1.length <= _;unfold canonN;omega⟩
 have hput : putR N os nm ns rs = ((canonN ns rs).2.map (fun i : Int=>(putS nm (usedL os) (canonN ns rs).1).ws.getD i.toNat 0),0,putO N (putS nm (usedL os) (canonN ns rs).1).ws os (canonN ns rs).1,(putS nm (usedL os) (canonN ns rs).1).nm):=by
  unfold putR;rw [if_neg hneg,if_neg hroom]
 exact ⟨hok,hg,hgc,hF.ordered,hFc,hF.again,hlen,fun d hd=>⟨hsm d hd,hkc d hd⟩,by rw [hput],by rw [hput];exact hok.objs,by rw [hput],hsum⟩
theorem put_error (h : (putR N os nm ns rs).2.1 ≠ 0) : (putR N os nm ns rs).1 = [] /\ (putR N os nm ns rs).2.2.1 = os /\ (putR N os nm ns rs).2.2.2 = nm /\ ((putR N os nm ns rs).2.1 = 20 ↔ needM ns rs < 0):=by
 unfold putR at *
 by_cases h1 : needM ns rs < 0
 ·rw [if_pos h1];exact ⟨rfl,rfl,rfl,fun _=>h1,fun _=>rfl⟩
 ·rw [if_neg h1] at h ⊢
  by_cases h2 : N - (usedL os : Nat) < needM ns rs
  ·rw [if_pos h2];exact ⟨rfl,rfl,rfl,fun e=>absurd (show (3 : Int) = 20 from e) (by decide),fun e=>absurd e h1⟩
  ·rw [if_neg h2] at h;exact absurd rfl h
end
theorem digs_len : ∀ (f k v : Nat),v < 10 ^ k -> (digs f v).length <= k
 | 0,k,v,_=>by simp [digs]
 | f + 1, k, v, h => by
  unfold digs
  split
  ·simp
  ·rename_i hv
   cases k with
   | zero=>simp at h;omega
   | succ k =>
    have:=digs_len f k (v / 10) (by rw [Nat.pow_succ] at h;omega)
    simp;omega
theorem printL_len {v k : Nat} (neg : Bool) (h : v < 10 ^ k) : (printL neg v).length <= k + 1:=by
 have:=digs_len v k v h
 unfold printL
 split
 ·simp
 ·cases neg <;> simp <;> omega
theorem textOf_size (l : List Nat) : (textOf l).size = l.length:=by
 show (l.map UInt8.ofNat).toArray.size = l.length
 simp
theorem pow_b40 : B32 ^ 40 < 10 ^ 400:=by decide +kernel
theorem bign_small (f : List Int) : (bigNd f).kids = [] /\ (bigNd f).text.size <= 2000 /\ (bigNd f).kind = (if bigB f = true then 3 else 11):=by
 unfold bigNd
 by_cases h : bigB f = true
 ·rw [if_pos h, if_pos h]
  refine ⟨rfl,?_,rfl⟩
  unfold bigB at h
  simp only [Bool.and_eq_true,List.all_eq_true] at h
  obtain ⟨_,h2,_,h4,_⟩:=h
  have hl : (numMag f).length <= 40:=by
   unfold goodB at h4
   simp only [Bool.or_eq_true,Bool.and_eq_true,decide_eq_true_eq] at h4
   omega
  have hd : Dg B32 (numMag f):=fun x hx=>by
   unfold numMag at hx
   obtain ⟨y,hy,rfl⟩:=List.mem_map.1 hx
   have:=h2 y (List.mem_of_mem_drop hy)
   unfold limbB at this
   simp only [Bool.and_eq_true,decide_eq_true_eq] at this
   show (nN y).toNat < 4294967296
   omega
  show (textOf (printL (numNeg f) (val B32 (numMag f)))).size <= 2000
  rw [textOf_size]
  have hv : val B32 (numMag f) < 10 ^ 400:=by
   have h1:=val_lt hd
   have h2 : B32 ^ (numMag f).length <= B32 ^ 40:=Nat.pow_le_pow_right (by decide) hl
   have h3:=pow_b40
   exact Nat.lt_of_lt_of_le (Nat.lt_of_lt_of_le h1 h2) (Nat.le_of_lt h3)
  have:=printL_len (numNeg f) hv
  omega
 ·rw [if_neg h, if_neg h]
  exact ⟨rfl,by decide,rfl⟩
theorem canon_one {d : Nd} (hk : d.kids = []) (hg : goodG [d] [0] = true) (f : Nat) : canonG [d] [0] (f + 2) = ([d],[0]):=by
 have hm : meetS [d] [-1] [] 0 = ([0],[0]):=by
  unfold meetS
  split
  ·rfl
  ·rfl
 have e1 : followR [d] (f + 2) [0] (start 1) = ([0],[0]):=by
  show followS [d] (f + 2) [0] [-1] [] = _
  rw [followS,if_neg (by decide)]
  show followS [d] (f + 1) (d.kids ++ []) (meetS [d] [-1] [] 0).1 (meetS [d] [-1] [] 0).2 = _
  rw [hm,hk]
  rfl
 unfold canonG
 rw [if_pos hg]
 show ((followR [d] (f + 2) [0] (start 1)).2.map (newNode [d] (followR [d] (f + 2) [0] (start 1)).1),renum (followR [d] (f + 2) [0] (start 1)).1 [0]) = _
 rw [e1]
 have e2 : newNode [d] [0] 0 = d:=nd_ext rfl rfl rfl (by show renum [0] d.kids = d.kids;rw [hk];rfl)
 show ([newNode [d] [0] 0],[0]) = _
 rw [e2]
theorem told_one {D : Int -> Nd} {a : Int} {W rs : List Int} {ns : List Nd} (hok : ∀ x,okD (D x) = true) (hk : (D a).kids = []) (T : Told D [a] W ns rs) (F : Fine ns rs 300001) : canonN ns rs = ([D a],[0]):=by
 have hr : ∀ x,Rch D [a] x -> x = a:=fun x h=>by
  induction h with
  | root hm=>exact List.mem_singleton.1 hm
  | @kid x y _ hy ih=>rw [ih,hk] at hy;cases hy
 have T1 : Told D [a] [a] [D a] [0]:=by
  have h0 : ∀ i,i < [D a].length -> i = 0:=fun i hi=>by simp at hi;omega
  refine ⟨rfl,fun i hi=>?_,fun i hi=>?_,fun i hi=>?_,rfl,fun k hk=>?_,fun i j hi hj _=>.inl ?_⟩
  ·obtain rfl:=h0 i hi;exact ⟨rfl,rfl,rfl⟩
  ·obtain rfl:=h0 i hi;show (D a).kids.map _ = (D a).kids;rw [hk];rfl
  ·obtain rfl:=h0 i hi;intro k hk';have : k∈(D a).kids:=hk';rw [hk] at this;cases this
  ·obtain rfl:=List.mem_singleton.1 hk;simp
  ·rw [h0 i hi,h0 j hj]
 have F1 : Fine [D a] [0] 300001:=⟨T1.good (fun x _=>hok x),fun d hd=>by obtain rfl:=List.mem_singleton.1 hd;rw [hk];exact Nat.zero_le _,by simp,by simp⟩
 have e:=told_two (ψ:=id) T T1 (by simp) hok (fun x hx=>⟨⟨rfl,rfl,rfl⟩,by simp⟩) (fun x y hx hy e=>.inl e) (fun x hx _=>by rw [hr x hx];exact hk) F F1
 unfold canonN
 rw [e]
 exact canon_one hk F1.good 299999
section
variable {B : Nat} {v : Value} {N : Int} {os : List Ob} {F : Nat -> Prop}
theorem showe_any (a : Int) (ha : U64 a) (w : World) (h : HE B v N os F w) (hT : TabsS w) {k : Nat} (hf : findM os a = some k) (h5 : (os.getD k default).kind = 5) (g : Nat) (hg : w.heap[g]? = some (.cells #[.int .u64 a] 44 (0,0))) :
  Calls Tryz.prog 11 #[v,.pointer none,.slice (some ⟨g,0,none⟩) 1 1] w fun e w'=>∃ b o n1 c1 a2 n2 c2,e = .returned (.agg #[.slice (some ⟨b,o,none⟩) n1 c1,.slice a2 n2 c2]) /\ 0 < n1 /\ n1 <= c1 /\ c1 <= maxLen /\ w'.cell? ⟨b,o,none⟩ = some (.int .i64 (if bigB (os.getD k default).f = true then 3 else 11)) /\ Below w.heap.size w w':=by
 obtain ⟨gh,rfl⟩:=h.ph.ptr
 have hd : wordD os [] a = bigNd (os.getD k default).f:=by unfold wordD;rw [hf];simp only;rw [h5];rfl
 obtain ⟨s1,s2,s3⟩:=bign_small (os.getD k default).f
 have hr : ∀ x,Rch (wordD os []) [a] x -> x∈[a]:=fun x hx=>by
  induction hx with
  | root hm=>exact hm
  | @kid x y _ hy ih=>rw [List.mem_singleton.1 ih,hd,s1] at hy;cases hy
 refine (sshow_gen (op:=none) (wordD os []) (ok_word os []) (some ⟨g,0,none⟩) 1 1 [a] w (urow_one hg ha) [a] hr (by simp) (fun x hx=>by obtain rfl:=List.mem_singleton.1 hx;rw [hd,s1];exact ⟨by simp,s2⟩) (by omega) hT (fun wr x gs hx hu hb hs=>by obtain rfl:=List.mem_singleton.1 hx;rw [hd];exact nodee_is x hu wr (h.on hb) hs hf h5)).mono ?_
 rintro e w' ⟨a1,n1,c1,a2,n2,c2,W,ns,rs,rfl,hT1,hF,hG,_,hb⟩
 have hc:=told_one (ok_word os []) (by rw [hd];exact s1) hT1 hF
 rw [hc] at hG
 have hl:=hG.nodes.len
 have hl1 : n1 = 1:=by simpa using hl.symm
 subst hl1
 obtain ⟨b,o,rfl,_,hcc⟩:=hG.nodes.some (by omega)
 obtain ⟨c0,_⟩:=hcc 0 (by simp)
 refine ⟨b,o,1,c1,a2,n2,c2,rfl,by omega,hG.nodes.fits,hG.nodes.most,?_,hb⟩
 rw [<- s3,<- hd]
 simpa using c0
set_option maxHeartbeats 4000000 in
theorem esamei_any (a b : Int) (ha : U64 a) (hb : U64 b) (w : World) (h : HE B v N os F w) (hT : TabsS w) : Calls Tryz.prog 52 #[v,.int .u64 a,.int .u64 b] w fun e w'=>e = .returned (.bool (sameIB os a b)) /\ Below w.heap.size w w':=by
 have C:=hid (etype_any a b ha hb w h)
 have HSI : Hid (∀ i k,findM os a = some i -> findM os b = some k -> sameIB os a b = bigEq os i k):=fun i k h1 h2=>by unfold sameIB;rw [h1,h2]
 by_cases h5 : stM os a b = 5
 ·unfold stM kindM at h5
  cases hi : findM os a with
  | none=>rw [hi] at h5;simp only at h5;split at h5 <;> omega
  | some i =>
   cases hk : findM os b with
   | none =>
    rw [hi,hk] at h5
    simp only at h5
    have:=h.fine.kd _ (getD_in_os (findM_lt hi).1)
    rw [if_neg (by omega)] at h5
    omega
   | some k =>
    rw [hi,hk] at h5
    simp only at h5
    have h5' : (os.getD i default).kind = 5 /\ (os.getD k default).kind = 5:=by
     split at h5
     ·rename_i e;exact ⟨h5,by rw [<- e];exact h5⟩
     ·omega
    have hst : stM os a b = 5:=by unfold stM kindM;rw [hi,hk];simp only;rw [h5'.1,h5'.2];rfl
    rw [hst] at C
    have CF : Hid (∀ W,Below w.heap.size w W -> _):=fun W hW=>esamef_any a b ha hb W (h.on hW) hi hk
    have CS : Hid (∀ W,Below w.heap.size w W -> Calls Tryz.prog 11 #[v,.pointer none,.slice (some ⟨W.heap.size,0,none⟩) 1 1] (W.alloc (.cells #[.int .u64 a] 44)) fun e w'=>∃ b o n1 c1 a2 n2 c2,e = .returned (.agg #[.slice (some ⟨b,o,none⟩) n1 c1,.slice a2 n2 c2]) /\ 0 < n1 /\ n1 <= c1 /\ c1 <= maxLen /\ w'.cell? ⟨b,o,none⟩ = some (.int .i64 (if bigB (os.getD i default).f = true then 3 else 11)) /\ Below w.heap.size w w'):=fun W hW=>by
     have hb1:=Bt hW (Ba W (.cells #[.int .u64 a] 44))
     refine (showe_any a ha _ (h.on hb1) (hT.below hb1) hi h5'.1 W.heap.size (blk_new _ _ _)).mono ?_
     rintro e w' ⟨b,o,n1,c1,a2,n2,c2,h1,h2,h3,h4,h6,h7⟩
     exact ⟨b,o,n1,c1,a2,n2,c2,h1,h2,h3,h4,h6,hb1.trans (h7.mono hb1.size)⟩
    obtain ⟨gh,rfl⟩:=h.ph.ptr
    rw [HSI.out i k hi hk]
    unfold bigEq
    rw [decide_eq_true h5'.1,decide_eq_true h5'.2]
    obtain ⟨b1,hb1⟩ : ∃ x,x = decide ((os.getD i default).f = (os.getD k default).f):=⟨_,rfl⟩
    obtain ⟨b2,hb2⟩ : ∃ x,x = bigB (os.getD i default).f:=⟨_,rfl⟩
    rw [<- hb1] at CF
    rw [<- hb2] at CS
    rw [<- hb1,<- hb2]
    clear h hi hk ha hb hT h5 h5' hst hb1 hb2
    cases b1
    ·go_enter Tryz.func52, Tryz.ntmps52
     go_wp2_with (first
      | (go_at_call 95;(with_reducible refine C.out.mono ?_);rintro e W1 ⟨rfl,b1⟩;have HB1:=hid b1;have C2:=hid (CF.out W1 b1);clear b1)
      | (go_at_call 96;(with_reducible refine C2.out.mono ?_);rintro e W2 ⟨rfl,b2⟩;have HB2:=hid (HB1.out.trans (b2.mono HB1.out.size));clear b2))
     go_ret
     exact ⟨rfl,HB2.out⟩
    ·cases b2
     all_goals
      simp only [if_true,if_false,Bool.false_eq_true] at CS
      unfold maxLen at CS
      have hfd : ∀ bx ox n1 c1 a2 n2 c2 wx,(Instr.field 34 (.agg #[.slice (some ⟨bx,ox,none⟩) n1 c1,.slice a2 n2 c2]) 0).run Tryz.prog wx = .ok (.slice (some ⟨bx,ox,none⟩) n1 c1) wx:=fun _ _ _ _ _ _ _ _=>rfl
      go_enter Tryz.func52,Tryz.ntmps52
      go_wp2_with (first
       | (go_at_call 95;(with_reducible refine C.out.mono ?_);rintro e W1 ⟨rfl,b1⟩;have HB1:=hid b1;have C2:=hid (CF.out W1 b1);clear b1)
       | (go_at_call 96;(with_reducible refine C2.out.mono ?_);rintro e W2 ⟨rfl,b2⟩;have HB2:=hid (HB1.out.trans (b2.mono HB1.out.size));have C3:=hid (CS.out W2 HB2.out);clear b2)
       | (go_at_call 11;(with_reducible refine C3.out.mono ?_);rintro e W3 ⟨bx,ox,n1,c1,a2,n2,c2,rfl,g1,g2,g3,g4,b3⟩;have HB3:=hid b3;clear b3))
      go_ret
      exact ⟨rfl,HB3.out⟩
 ·have hfin : sameIB os a b = false := by
   unfold sameIB
   cases hi : findM os a with
   | none=>rfl
   | some i =>
    cases hk : findM os b with
    | none=>rfl
    | some k =>
     simp only [bigEq]
     unfold stM kindM at h5
     rw [hi,hk] at h5
     simp only at h5
     by_cases e1 : (os.getD i default).kind = 5
     ·by_cases e2 : (os.getD k default).kind = 5
      ·rw [e1,e2] at h5;exact absurd rfl h5
      ·rw [decide_eq_false e2,Bool.false_and,Bool.and_false]
     ·rw [decide_eq_false e1,Bool.false_and]
  rw [hfin]
  obtain ⟨gh,rfl⟩:=h.ph.ptr
  obtain ⟨st,hst⟩ : ∃ x,x = stM os a b:=⟨_,rfl⟩
  rw [<- hst] at C h5
  have e0 : (st != 5) = true:=by simp [h5]
  clear h ha hb hT h5 hst hfin
  go_enter Tryz.func52,Tryz.ntmps52
  go_wp2_with (go_at_call 95;(with_reducible refine C.out.mono ?_);rintro e W1 ⟨rfl,b1⟩;have HB1:=hid b1;clear b1)
  go_ret
  exact ⟨rfl,HB1.out⟩
theorem eeqv_any (a b : Int) (ha : U64 a) (hb : U64 b) (w : World) (h : HE B v N os F w) (hT : TabsS w) : Calls Tryz.prog 20 #[v,.int .u64 a,.int .u64 b] w fun e w'=>e = .returned (.bool (eqvB os a b)) /\ Below w.heap.size w w':=by
 have C:=hid (esamei_any a b ha hb w h hT)
 unfold eqvB
 obtain ⟨gh,rfl⟩:=h.ph.ptr
 obtain ⟨bb,hbb⟩ : ∃ x,x = (sameIB os a b):=⟨_,rfl⟩
 rw [<- hbb] at C ⊢
 clear h ha hb hT hbb
 by_cases e : a = b
 ·have e1 : (a == b) = true := by simp [e]
  rw [decide_eq_true e]
  clear e
  go_enter Tryz.func20,Tryz.ntmps20
  go_wp2_with fail
  go_ret
  exact ⟨rfl,Below.refl _ _⟩
 ·have e1 : (a == b) = false := by simp [e]
  rw [decide_eq_false e]
  clear e
  go_enter Tryz.func20,Tryz.ntmps20
  go_wp2_with (go_at_call 52;(with_reducible refine C.out.mono ?_);rintro e W1 ⟨rfl,b1⟩;have HB1:=hid b1;clear b1)
  go_ret
  exact ⟨rfl,HB1.out⟩
end
end Go.Proofs.YticimejfjjmikaaGreatDoor
