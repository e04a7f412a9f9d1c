import Derived.Test.YticimejfjjmikaaGreatDoorSL3
import Derived.Test.YticimejfjjmikaaGreatDoorQ1
import Derived.Test.YticimejfjjmikaaGreatDoorQ3
import Derived.Test.YticimejfjjmikaaGreatDoorG3
set_option linter.unusedVariables false
set_option linter.unusedSimpArgs false
set_option maxRecDepth 100000
namespace Go.Proofs.YticimejfjjmikaaGreatDoor
open Go.RowKit
def tailA (ao : Option Addr) (cap : Nat) : Option Addr:=if cap = 1 then ao else ao.map (·.add 1)
theorem tail_row {w : World} {ao : Option Addr} {n cap : Nat} {f : List Int} (R : URow w ao n cap f) (hn : 0 < n) : URow w (tailA ao cap) (n - 1) (cap - 1) (f.drop 1) /\ (∀ a,tailA ao cap = some a -> ∃ a0,ao = some a0 /\ a0.block = a.block):=by
 obtain ⟨b,o,rfl,hlb,hc⟩:=R.some hn
 have hf:=R.fits
 have hm:=R.most
 have hl:=R.len
 refine ⟨⟨by rw [List.length_drop];omega,by omega,by omega,fun e=>?_,fun z hz=>R.bd z (List.mem_of_mem_drop hz),?_⟩,fun a e=>?_⟩
 ·unfold tailA at e
  split at e <;> cases e
 ·by_cases h1 : n = 1
  ·left
   exact List.eq_nil_of_length_eq_zero (by rw [List.length_drop];omega)
  ·right
   refine ⟨b,o + 1,?_,hlb,fun i hi=>?_⟩
   ·unfold tailA
    rw [if_neg (by omega)];rfl
   ·rw [List.length_drop] at hi
    have:=hc (i + 1) (by omega)
    rw [show o + 1 + i = o + (i + 1) by omega,this]
    simp
 ·unfold tailA at e
  split at e
  ·exact ⟨_,rfl,by cases e;rfl⟩
  ·refine ⟨_, rfl, ?_⟩
   cases e;rfl
theorem tail_run (ao : Option Addr) (n cap : Nat) (hn : 0 < n) (w : World) : (Instr.slice 23 (.slice ao n cap) (some (.int .i64 1)) none none).run Tryz.prog w = .ok (.slice (tailA ao cap) (n - 1) (cap - 1)) w:=by
 have hz : (sizeOf (Tryz.prog.elem 23)).run Tryz.prog w = .ok 1 w:=by kernel_rfl
 rw [run_slice_l (P:=Tryz.prog) w 23 ao n cap Tryz.underlying23 .i64 1 (by omega) (by omega),hz]
 rfl
def intB (f : List Int) : Bool:=decide (0 < f.length) && (f.all limbB && (decide (nN (f.getD 0 0) <= 1) && goodB (numNeg f) (numMag f)))
theorem bigB_is (f : List Int) : bigB f = (intB f && !fixB (sgn (numNeg f) (val B32 (numMag f)))):=by
 unfold bigB intB
 rw [Bool.and_assoc,Bool.and_assoc,Bool.and_assoc]
theorem upto_limb (x : Int) : uptoB 4294967295 x = limbB x:=by
 unfold uptoB limbB
 congr 2
 by_cases h : nN x <= 4294967295
 ·rw [decide_eq_true h,decide_eq_true (by omega)]
 ·rw [decide_eq_false h,decide_eq_false (by omega)]
theorem upto_sign (x : Int) : uptoB 1 x = (limbB x && decide (nN x <= 1)):=by
 unfold uptoB limbB
 by_cases h : nN x <= 1
 ·rw [decide_eq_true h,decide_eq_true (show nN x < 4294967296 by omega)];simp
 ·rw [decide_eq_false h];simp
theorem row_of_kz {w : World} {base : Nat} {v : Value} {l : List Int} (h : w.ownsRow base 163 1 v l.length (kz .u32 l)) (hd : ∀ x∈l,0 <= x /\ x < 4294967296) : ∃ ao cap,v = .slice ao l.length cap /\ Row .u32 B32 w ao l.length cap (l.map Int.toNat):=by
 have hdg : Dg B32 (l.map Int.toNat):=fun y hy=>by
  obtain ⟨x,hx,rfl⟩:=List.mem_map.1 hy
  have:=hd x hx
  show x.toNat < 4294967296
  omega
 rcases h.2 with ⟨e1,e2⟩ | ⟨g,cap,cur,e1,e2,e3,e4,e5,e6,e7⟩
 ·have := List.length_eq_zero_iff.1 e2
  subst this
  exact ⟨none,0,e1,rfl,Nat.le_refl _,Nat.zero_le _,fun _=>rfl,hdg,.inl rfl⟩
 ·refine ⟨some ⟨g, 0, none⟩, cap, e1, by rw [List.length_map], e4, e5, fun e => (by cases e), hdg, .inr ⟨g, 0, rfl, (Array.getElem?_eq_some_iff.1 e3).1, fun i hi => ?_⟩⟩
  rw [List.length_map] at hi
  have hx:=hd _ (getD_in_f hi)
  have e : ((l.map Int.toNat).getD i 0 : Nat) = (l.getD i 0).toNat:=by
   rw [List.getD_eq_getElem?_getD,List.getElem?_map,List.getD_eq_getElem?_getD,List.getElem?_eq_getElem hi];rfl
  rw [e,Int.toNat_of_nonneg hx.1,Nat.zero_add,blk_cell e3,<- kz_get hi,<- e7,List.getElem?_take,if_pos (by omega)]
  simp
theorem info_u32' : (Tryz.prog.info? 163).map (fun i=>(i.zero,i.size,i.bytes)) = some (some (.int .u32 0),1,4):=by kernel_rfl
def IntPost (f : List Int) (w : World) (e : Ending) (w' : World) : Prop:=∃ neg ao n cap,e = .returned (.tuple #[.agg #[.bool neg,.slice ao n cap],.bool (intB f)]) /\ (intB f = true -> neg = numNeg f /\ n <= 40 /\ Row .u32 B32 w' ao n cap (numMag f)) /\ Below w.heap.size w w'
theorem IntPost.no {f : List Int} {w w' : World} (h : intB f = false) (hb : Below w.heap.size w w') : IntPost f w (.returned (.tuple #[.agg #[.bool false,.slice none 0 0],.bool false])) w' :=
 ⟨false,none,0,0,by rw [h],fun e=>(by rw [h] at e;cases e),hb⟩
set_option maxHeartbeats 8000000 in
theorem integer_any (ao : Option Addr) (n cap : Nat) (f : List Int) (w : World) (R : URow w ao n cap f) (hn : n <= 5000000) : Calls Tryz.prog 158 #[.slice ao n cap] w (IntPost f w):=by
 have hl:=R.len
 have hft:=R.fits
 have hmx:=R.most
 unfold maxLen at hmx
 have HR:=hid R
 have HIB : Hid (intB f = (decide (0 < f.length) && (f.all limbB && (decide (nN (f.getD 0 0) <= 1) && goodB (numNeg f) (numMag f))))):=rfl
 by_cases h0 : n = 0
 ·have hno : Hid (intB f = false) := by unfold Hid; rw [HIB.out, decide_eq_false (by omega), Bool.false_and]
  have hst:=blk_new w #[.bool false,.slice none 0 0] 104
  have t0:=blk_cell hst 0
  have t1:=blk_cell hst 1
  have HB:=hid (Ba w (.cells #[.bool false,.slice none 0 0] 104))
  subst h0
  clear hst R hl
  go_enter Tryz.func158,Tryz.ntmps158
  go_wp2_with fail
  (try simp only [Exit.inBlock,Exit.then]);refine bodyPost_ret (by simp [results,Tryz.results158,go_sem,t0,t1];rfl) rfl ?_
  exact IntPost.no hno.out HB.out
 have e0 : ((n : Int) == 0) = false:=by simp;omega
 have hn0 : 0 < n:=by omega
 obtain ⟨b,o,rfl,hlb,hc⟩:=R.some (by omega)
 have HC:=hid hc
 have hr:=blk_new w #[.bool false,.slice none 0 0] 104
 have HB:=hid (Ba w (.cells #[.bool false,.slice none 0 0] 104))
 have HRR:=hid hr
 obtain ⟨W0,hW0⟩ : ∃ W,W = w.alloc (.cells #[.bool false,.slice none 0 0] 104):=⟨_,rfl⟩
 have hs0 : W0.heap.size = w.heap.size + 1:=by rw [hW0,size_alloc]
 rw [<- hW0] at HB HRR
 have c0 : W0.cell? ⟨b,o,none⟩ = some (.int .u64 (f.getD 0 0)):=by
  have:=hc 0 (by omega)
  rw [Nat.add_zero] at this
  rw [HB.out.cell (p:=⟨b,o,none⟩) hlb];exact this
 have hx0:=HR.out.bd _ (getD_in_f (l:=f) (i:=0) (by omega))
 have C0:=hid (upto_any 1 (f.getD 0 0) hx0 W0)
 have hsg:=upto_sign (f.getD 0 0)
 have HAF : Hid (∀ q,q < n -> limbB (f.getD q 0) = false -> intB f = false):=fun q hq h=>by
  rw [HIB.out,all_off (p:=limbB) (q:=q) (by omega) h,Bool.false_and,Bool.and_false]
 have HZ1 : Hid (decide (nN (f.getD 0 0) <= 1) = false -> intB f = false):=fun h=>by rw [HIB.out,h,Bool.false_and,Bool.and_false,Bool.and_false]
 have HBAD : Hid (uptoB 1 (f.getD 0 0) = false -> intB f = false):=fun h=>by
  rw [hsg,Bool.and_eq_false_iff] at h
  rcases h with h | h
  ·exact HAF.out 0 (by omega) h
  ·exact HZ1.out h
 have c0' : (w.alloc (.cells #[.bool false,.slice none 0 0] 104)).cell? ⟨b,o,none⟩ = some (.int .u64 (f.getD 0 0)):=by rw [<- hW0];exact c0
 obtain ⟨x0,hx0e⟩ : ∃ x,x = f.getD 0 0:=⟨_,rfl⟩
 rw [<- hx0e] at c0 c0' C0 HBAD hsg HIB HZ1
 have HX0:=hid hx0e
 have fin : Hid (∀ W,Below W0.heap.size W0 W -> W.heap[w.heap.size]? = some (.cells #[.bool false,.slice none 0 0] 104 (0,0)) /\ ∀ v1 v2,(((W.setCell ⟨w.heap.size,0,none⟩ v1).setCell ⟨w.heap.size,1,none⟩ v2).heap[w.heap.size]? = some (.cells #[v1,v2] 104 (0,0)) /\ Below w.heap.size w ((W.setCell ⟨w.heap.size,0,none⟩ v1).setCell ⟨w.heap.size,1,none⟩ v2))):=fun W hb=>by
  have h1:=(hb.block w.heap.size (by omega)).trans HRR.out
  exact ⟨h1,fun v1 v2=>⟨store2 h1,store2_below (Bt HB.out hb) (Nat.le_refl _)⟩⟩
 cases hb0 : uptoB 1 x0
 ·have hno := HBAD.out hb0
  have HNO:=hid hno
  rw [hb0] at C0
  have t0:=blk_cell hr 0
  have t1:=blk_cell hr 1
  rw [hW0] at HB C0
  clear R hc hb0 hno hsg hx0 hr c0 hx0e fin hs0 h0
  go_enter Tryz.func158,Tryz.ntmps158
  go_wp2_with (go_at_call 157;(with_reducible refine C0.out.mono ?_);rintro e W1 ⟨m,rfl,_,hw1⟩;rw [hw1];clear hw1)
  (try simp only [Exit.inBlock,Exit.then]);refine bodyPost_ret (by simp [results,Tryz.results158,go_sem,t0,t1];rfl) rfl ?_
  exact IntPost.no HNO.out HB.out
 ·rw [hb0] at C0
  have hn1 : nN x0 <= 1 /\ 0 <= nN x0:=by
   unfold uptoB at hb0
   simp only [Bool.and_eq_true,decide_eq_true_eq] at hb0
   omega
  have HNG : Hid (numNeg f = decide (nN x0 = 1)):=by unfold Hid numNeg;rw [<- HX0.out]
  obtain ⟨y0,hy0⟩ : ∃ y,y = nN x0:=⟨_,rfl⟩
  rw [<- hy0] at C0 hn1 HNG
  have hng : (y0 == 1) = decide (y0 = 1):=rfl
  obtain ⟨ng,hnge⟩ : ∃ b,b = decide (y0 = 1):=⟨_,rfl⟩
  rw [<- hnge] at hng HNG
  have htl:=tail_row HR.out (by omega)
  have HTL:=hid htl
  have htr:=fun wx=>tail_run (some ⟨b,o,none⟩) n cap (by omega) wx
  obtain ⟨ta,hta⟩ : ∃ a,a = tailA (some ⟨b,o,none⟩) cap:=⟨_,rfl⟩
  rw [<- hta] at HTL htr
  have b1:=Ba W0 (.cells #[.bool ng,.slice none 0 0] 104)
  have hx1:=blk_new W0 #[.bool ng,.slice none 0 0] 104
  obtain ⟨gx,hgx⟩ : ∃ g,g = w.heap.size + 1:=⟨_,rfl⟩
  rw [hs0,<- hgx] at hx1
  have hs0' : W0.heap.size = gx:=by omega
  have hgr : w.heap.size < gx:=by omega
  obtain ⟨W1,hW1⟩ : ∃ W,W = W0.alloc (.cells #[.bool ng,.slice none 0 0] 104):=⟨_,rfl⟩
  rw [<- hW1] at b1 hx1
  have HS0:=hid hs0'
  have HS1 : Hid (W1.heap.size = gx + 1):=by unfold Hid;rw [hW1,size_alloc,hs0']
  have HB1:=hid b1
  have HX1:=hid hx1
  have hW1' : (w.alloc (.cells #[.bool false,.slice none 0 0] 104)).alloc (.cells #[.bool ng,.slice none 0 0] 104) = W1:=by rw [hW1,hW0]
  obtain ⟨tl,htle⟩ : ∃ l,l = f.drop 1:=⟨_,rfl⟩
  obtain ⟨m,hme⟩ : ∃ k,k = n - 1:=⟨_,rfl⟩
  obtain ⟨cm,hcme⟩ : ∃ k,k = cap - 1:=⟨_,rfl⟩
  rw [<- htle,<- hme,<- hcme] at HTL
  rw [<- hme,<- hcme] at htr
  have HTE:=hid htle
  have HME:=hid hme
  have htlen:=HTL.out.1.len
  have htft:=HTL.out.1.fits
  have htmx:=HTL.out.1.most
  unfold maxLen at htmx
  have hm1 : m <= 5000000:=by omega
  have HTF : Hid (∀ q,q < m -> tl.getD q 0 = f.getD (q + 1) 0):=fun q hq=>by rw [HTE.out];simp
  have HAL : Hid (tl.all limbB = true -> f.all limbB = true):=fun h=>by
   have e1 : f = f.take 1 ++ tl:=by rw [HTE.out,List.take_append_drop]
   rw [e1,List.all_append,h,Bool.and_true]
   have e2:=all_take_one (p:=limbB) (f:=f) (q:=0) (by omega)
   rw [e2,<- HX0.out]
   rw [upto_sign,Bool.and_eq_true] at hb0
   rw [hb0.1];rfl
  have HMG : Hid (numMag f = (tl.map nN).map Int.toNat):=by
   unfold Hid numMag
   rw [<- HTE.out,List.map_map];rfl
  have HID : Hid (tl.all limbB = true -> intB f = goodB (numNeg f) (numMag f)):=fun h=>by
   rw [HIB.out,HAL.out h,decide_eq_true (show 0 < f.length by omega),decide_eq_true (show nN x0 <= 1 by rw [<- hy0];exact hn1.1)]
   simp
  have HW1':=hid hW1'
  have HGX:=hid hgx
  rw [hW0] at C0
  clear R hc hb0 hsg hx0 hr hx0e hy0 htl hta hnge htle hme hcme b1 hx1 hW1 hs0 hs0' c0 hW1' hgx h0 hW0
  go_enter Tryz.func158,Tryz.ntmps158
  go_wp2_with (go_at_call 157;(with_reducible refine C0.out.mono ?_);rintro e Wq ⟨m9,rfl,hm9,hw1⟩;rw [hw1,hm9 (by trivial)];clear hw1 hm9)
  rw [HW1'.out,<- HGX.out]
  clear c0' htr
  have HBW : Hid (∀ wx,Below gx W0 wx -> Below w.heap.size w wx):=fun wx hb=>HB.out.trans (hb.mono (by omega))
  go_loopw [8,9,10,31] (fun _ _ _ i wr=>∃ q : Nat,q <= m /\ i = .int .i64 q /\ Hid (∃ vM,wr.heap[gx]? = some (.cells #[.bool ng,vM] 104 (0,0)) /\ wr.ownsRow (gx + 1) 163 1 vM q (kz .u32 ((tl.take q).map nN)) /\ (tl.take q).all limbB = true /\ Below gx W0 wr)) (fun _ _ _ i _=>m - (intOf i).toNat)
  case atStart=>exact ⟨0,Nat.zero_le _,rfl,.slice none 0 0,HX1.out,World.ownsRow_nil _ _ _ _,rfl,by have:=HB1.out;rw [HS0.out] at this;exact this⟩
  case round =>
   obtain ⟨q,hq,rfl,hI⟩:=hrel
   obtain ⟨vM,i1,i2,i3,i4⟩:=hI.out
   have HI1:=hid i1
   have HI2:=hid i2
   have HI3:=hid i3
   have HI4:=hid i4
   have hgs : Hid (gx + 1 <= wr.heap.size):=(Array.getElem?_eq_some_iff.1 i1).1
   have HGR : Hid (∀ wx,Below gx W0 wx -> wx.heap[w.heap.size]? = some (.cells #[.bool false,.slice none 0 0] 104 (0,0))):=fun wx hb=>(hb.block w.heap.size hgr).trans HRR.out
   clear hI
   by_cases hlt : q < m
   ·obtain ⟨b2, o2, rfl, hlb2, hc2⟩ := (HTL.out.1.on (HBW.out wr i4)).some (by omega)
    have ck:=hc2 q hlt
    have hmem:=HTL.out.1.bd _ (getD_in_f (l:=tl) (i:=q) (by omega))
    have HT:=hid (nmap_take (f:=tl) (q:=q) (by omega))
    have HTA:=hid (all_take_one (p:=limbB) (f:=tl) (q:=q) (by omega))
    have HNO : Hid (limbB (tl.getD q 0) = false -> intB f = false):=fun h=>HAF.out (q + 1) (by have:=HME.out;omega) (by rw [<- HTF.out q hlt];exact h)
    obtain ⟨x,hx⟩ : ∃ x,x = tl.getD q 0:=⟨_,rfl⟩
    rw [<- hx] at ck hmem HT HTA HNO
    have C1:=hid (upto_any 4294967295 x hmem wr)
    rw [upto_limb] at C1
    have hnb : limbB x = true -> 0 <= nN x /\ nN x < 4294967296:=fun h=>by
     unfold limbB at h
     simp only [Bool.and_eq_true,decide_eq_true_eq] at h
     omega
    obtain ⟨bx,hbx⟩ : ∃ b,b = limbB x:=⟨_,rfl⟩
    have HUB:=hid hbx.symm
    rw [<- hbx] at C1 hnb
    clear hc2 hx hbx hmem i2 i3
    cases bx
    ·have hno := HNO.out HUB.out
     have HN2:=hid hno
     have g1:=HGR.out wr i4
     have y0:=blk_cell g1 0
     have y1:=blk_cell g1 1
     have p0:=blk_free g1 0
     have p1:=blk_free g1 1
     have hst:=store2 (v1:=.bool false) (v2:=.slice none 0 0) g1
     have t0:=blk_cell hst 0
     have t1:=blk_cell hst 1
     have HQ2:=hid (store2_below (v1:=.bool false) (v2:=.slice none 0 0) (HBW.out wr i4) (Nat.le_refl w.heap.size))
     clear hnb hno g1 hst i1 i4
     go_wp2_with (go_at_call 157;(with_reducible refine C1.out.mono ?_);rintro e Wq ⟨m9,rfl,_,hw1⟩;rw [hw1];clear hw1)
     (try simp only [Exit.inBlock,Exit.then]);refine bodyPost_ret (by simp [results,Tryz.results158,go_sem,t0,t1];rfl) rfl ?_
     exact IntPost.no HN2.out HQ2.out
    ·have hnr := hnb rfl
     obtain ⟨y,hy⟩ : ∃ y,y = nN x:=⟨_,rfl⟩
     rw [<- hy] at hnr C1 HT
     obtain ⟨aM,cM,hvM,hMf,hMm⟩:=slice_form HI2.out
     subst hvM
     have z1:=blk_cell i1 1
     have HO1:=hid (own_at HI2.out (fun b e=>(Ba wr (.cells #[.int .u32 y] 163)).block b (HI2.out.lt b e).2))
     have HC1 : Hid ((wr.alloc (.cells #[.int .u32 y] 163)).cell? ⟨wr.heap.size,0,none⟩ = some (.int .u32 y)):=blk_cell (blk_new wr #[.int .u32 y] 163) 0
     have HX2:=hid (((Ba wr (.cells #[.int .u32 y] 163)).block gx (by have:=hgs.out;omega)).trans i1)
     have HBA : Hid (Below gx W0 (wr.alloc (.cells #[.int .u32 y] 163))):=HI4.out.trans ((Ba wr _).mono (by have:=hgs.out;omega))
     have HSA : Hid (gx + 1 <= (wr.alloc (.cells #[.int .u32 y] 163)).heap.size):=by unfold Hid;rw [size_alloc];have:=hgs.out;omega
     clear hy hnb i1 i4
     go_wp2_with (first
      | (go_at_call 157;(with_reducible refine C1.out.mono ?_);rintro e Wq ⟨m9,rfl,hm9,hw1⟩;rw [hw1,hm9 (by trivial)];clear hw1 hm9)
      | (at_builtin;refine appK .u32 4 (by decide) rfl _ _ 102 rfl (gx + 1) 163 Tryz.underlying102 info_u32' _ q ((tl.take q).map nN) rfl HO1.out ⟨wr.heap.size,0,none⟩ 1 y rfl HC1.out (by omega) HSA.out ?_;intro g2 cap2 w2 ho2 hg2 hl2 hlt2;have hx3:=(hg2.block gx (by have:=HSA.out;omega) (fun e=>by have:=(HO1.out.lt gx e.symm).1;omega)).trans HX2.out;have d1:=blk_cell hx3 1;have df:=blk_free hx3 1;have HX3:=hid hx3;have HO2:=hid ho2;have HG2:=hid hg2;have HL2:=hid hl2;clear ho2 hg2 hl2 hx3))
     have hg2r : gx + 1 <= g2:=by
      rcases HL2.out with e | e
      ·exact (HO1.out.lt g2 e).1
      ·have:=HSA.out;omega
     refine ⟨⟨q + 1,by omega,by go_num,.slice (some ⟨g2,0,none⟩) (q + 1) cap2,?_,?_,?_,?_⟩,by simp [intOf] <;> omega⟩
     ·rw [blk_set (i:=1) HX3.out];rfl
     ·rw [HT.out]
      exact own_at HO2.out (fun b e=>Below.heap_setCell _ _ _ _ (fun e2=>by have e3 : g2 = b:=Option.some.inj e;have e4 : b = gx:=e2;omega))
     ·rw [HTA.out,HI3.out,HUB.out];rfl
     ·exact (HBA.out.grown HG2.out (by have:=HSA.out;omega) (fun b hb=>by have:=(HO1.out.lt b hb).1;omega)).setCell (p:=⟨gx,1,none⟩) (Nat.le_refl gx) _
   ·obtain rfl : m = q := by omega
    rw [List.take_of_length_le (by omega)] at i2 i3
    have hml : (tl.map nN).length = m:=by rw [List.length_map];exact htlen
    have i2':=i2
    rw [<- hml] at i2'
    have hdd : ∀ x∈tl.map nN,0 <= x /\ x < 4294967296:=fun x hx=>by
     obtain ⟨z,hz,rfl⟩:=List.mem_map.1 hx
     have h:=List.all_eq_true.1 i3 z hz
     unfold limbB at h
     simp only [Bool.and_eq_true,decide_eq_true_eq] at h
     omega
    obtain ⟨aM,cM,hvM,hrow⟩:=row_of_kz i2' hdd
    have HFIN : Hid (∀ wx : World,(∀ b,gx + 1 <= b -> b < wr.heap.size -> wx.heap[b]? = wr.heap[b]?) -> Row .u32 B32 wx aM m cM (numMag f)):=fun wx hwx=>by
     have i3':=own_at i2' (w':=wx) (fun b e=>hwx b (i2'.lt b e).1 (i2'.lt b e).2)
     obtain ⟨a',c',e',hr'⟩:=row_of_kz i3' hdd
     rw [hvM] at e'
     injection e' with e1 e2 e3
     subst e1 e3
     rw [hml,<- HMG.out] at hr'
     exact hr'
    rw [hml,<- HMG.out] at hrow
    rw [hml] at hvM
    subst hvM
    have HROW:=hid hrow
    have hrf:=hrow.fits
    have hrm:=hrow.most
    unfold maxLen at hrm
    have CG:=hid (good_any ng aM m cM (numMag f) wr.drew (hrow.below (below_drew wr)))
    have HIE:=hid (HID.out i3)
    rw [HNG.out] at HIE
    rw [<- HIE.out] at CG
    have z0:=blk_cell i1 0
    have z1:=blk_cell i1 1
    have g1:=HGR.out wr i4
    have y0:=blk_cell g1 0
    have y1:=blk_cell g1 1
    have p0:=blk_free g1 0
    have p1:=blk_free g1 1
    obtain ⟨gb,hgb⟩ : ∃ g,g = intB f:=⟨_,rfl⟩
    rw [<- hgb] at CG
    have HGB:=hid hgb
    clear i2 i3 i2' hdd hml hrow hgb g1 i1 i4
    go_wp2_with fail
    go_region_with (go_at_call 180;(with_reducible refine CG.out.mono ?_);rintro e W2 ⟨rfl,b2⟩;have HB2:=hid b2;have q1:=(b2.block gx hgs.out).trans HI1.out;have q2:=(b2.block w.heap.size (Nat.lt_trans hgr hgs.out)).trans (HGR.out wr HI4.out);have q3:=blk_cell q1 0;have q4:=blk_cell q1 1;have q5:=blk_cell q2 0;have q6:=blk_cell q2 1;have q7:=blk_free q2 0;have q8:=blk_free q2 1;clear b2)
    all_goals
     have hst:=store2 (v1:=.bool ng) (v2:=.slice aM m cM) q2
     have t0:=blk_cell hst 0
     have t1:=blk_cell hst 1
     have HQ2:=hid q2
     clear hst q1 q2 q3 q4 q5 q6 q7 q8 z0 z1 y0 y1 p0 p1
     go_wp2_with fail
     (try simp only [Exit.inBlock,Exit.then]);refine bodyPost_ret (by simp [results,Tryz.results158,go_sem,t0,t1];rfl) rfl ?_
     have hgg:=hgs.out
     have hbw:=HBW.out wr HI4.out
     refine ⟨ng,aM,m,cM,by rw [HGB.out],fun hg=>⟨HNG.out.symm,?_,HFIN.out _ (fun b e1 e2=>?_)⟩,store2_below (hbw.trans ((Bt (below_drew wr) HB2.out).mono hbw.size)) (Nat.le_refl _)⟩
     ·rw [HIE.out] at hg
      have h1:=goodB_len hg
      rw [HROW.out.len] at h1
      exact h1
     ·exact (store2_far (by omega)).trans (HB2.out.block b e2)
def bigNd (f : List Int) : Nd:=if bigB f = true then ⟨3,0,textOf (printL (numNeg f) (val B32 (numMag f))),[]⟩ else voidN
theorem intB_good {f : List Int} (h : intB f = true) : goodB (numNeg f) (numMag f) = true:=by
 unfold intB at h
 simp only [Bool.and_eq_true] at h
 exact h.2.2.2
set_option maxHeartbeats 8000000 in
theorem bign_any (ao : Option Addr) (n cap : Nat) (f : List Int) (w : World) (R : URow w ao n cap f) (hn : n <= 5000000) : Calls Tryz.prog 124 #[.slice ao n cap] w fun e w'=>e = .returned (bareV (bigNd f)) /\ Below w.heap.size w w':=by
 have hz:=NZ.new w
 have b0:=Ba w (.cells #[.int .i64 0,.int .i64 0,.string ⟨#[]⟩,.slice none 0 0] 54)
 have C:=hid (integer_any ao n cap f _ (R.on b0) hn)
 have HZ:=hid hz
 have HB:=hid b0
 have CV : Hid (∀ W,Calls Tryz.prog 127 #[] W fun e w'=>e = .returned (.agg #[.int .i64 11,.int .i64 0,.string ⟨#[]⟩,.slice none 0 0]) /\ Below W.heap.size W w'):=fun W=>void_any W
 have fin : Hid (∀ (k : Int) (W : World) (t0 : ByteArray),Below (w.alloc (.cells #[.int .i64 0,.int .i64 0,.string ⟨#[]⟩,.slice none 0 0] 54)).heap.size (w.alloc (.cells #[.int .i64 0,.int .i64 0,.string ⟨#[]⟩,.slice none 0 0] 54)) W -> NZ w.heap.size W /\ ((((W.setCell ⟨w.heap.size,0,none⟩ (.int .i64 k)).setCell ⟨w.heap.size,1,none⟩ (.int .i64 0)).setCell ⟨w.heap.size,2,none⟩ (.string t0)).setCell ⟨w.heap.size,3,none⟩ (.slice none 0 0)).heap[w.heap.size]? = some (.cells #[.int .i64 k,.int .i64 0,.string t0,.slice none 0 0] 54 (0,0)) /\ Below w.heap.size w ((((W.setCell ⟨w.heap.size,0,none⟩ (.int .i64 k)).setCell ⟨w.heap.size,1,none⟩ (.int .i64 0)).setCell ⟨w.heap.size,2,none⟩ (.string t0)).setCell ⟨w.heap.size,3,none⟩ (.slice none 0 0))):=fun k W t0 hb =>
  ⟨HZ.out.on hb,store4 (HZ.out.on hb),store4_below (Bt HB.out hb) (Nat.le_refl _)⟩
 have CF : Hid (∀ (neg : Bool) (ao : Option Addr) (n cap : Nat) (l : List Nat) (W : World),Row .u32 B32 W ao n cap l -> goodB neg l = true -> Calls Tryz.prog 159 #[.agg #[.bool neg,.slice ao n cap]] W (PFixPost (sgn neg (val B32 l)) W)):=fun neg ao n cap l W R g=>pfixed_any neg ao n cap l W R g
 have CP : Hid (∀ (neg : Bool) (ao : Option Addr) (n cap : Nat) (l : List Nat) (W : World),Row .u32 B32 W ao n cap l -> goodB neg l = true -> Calls Tryz.prog 160 #[.agg #[.bool neg,.slice ao n cap],.int .i64 10] W fun e w'=>e = .returned (.tuple #[.string (textOf (printL neg (val B32 l))),.int .i64 0]) /\ Below W.heap.size W w'):=fun neg ao n cap l W R g=>by
  refine (print_all neg ao n cap l 10 W R g).mono ?_
  rintro e w' ⟨s,en,rfl,hp,hb⟩
  obtain ⟨e1,e2⟩:=hp.is
  rw [e2,<- textOf_bs s,e1]
  exact ⟨rfl,hb⟩
 have HND : Hid (bigNd f = if bigB f = true then ⟨3,0,textOf (printL (numNeg f) (val B32 (numMag f))),[]⟩ else voidN):=rfl
 rw [bigB_is] at HND
 have HG:=fun h=>intB_good (f:=f) h
 unfold IntPost at C
 clear R hz b0
 obtain ⟨W0,hW0⟩ : ∃ W,W = w.alloc (.cells #[.int .i64 0,.int .i64 0,.string ⟨#[]⟩,.slice none 0 0] 54):=⟨_,rfl⟩
 rw [<- hW0] at C HZ HB fin
 have HBX : Hid (∀ (W1 : World) (c : Array Value),Below W0.heap.size W0 W1 -> Below W0.heap.size W0 (W1.alloc (.cells c 104))):=fun W1 c hb=>hb.trans ((Ba W1 _).mono hb.size)
 cases hi : intB f
 ·have hv : Hid (bigNd f = voidN) := by unfold Hid; rw [HND.out, hi]; rfl
  rw [hi] at C
  rw [hW0] at C
  clear HND HG hi
  go_enter Tryz.func124,Tryz.ntmps124
  go_wp2_with (first
   | (go_at_call 158;(with_reducible refine C.out.mono ?_);rintro e W1 ⟨ng,aM,m,cM,rfl,_,b1⟩;rw [<- hW0] at b1;have HB1:=hid (HBX.out W1 #[.bool ng,.slice aM m cM] b1);have C2:=hid (CV.out (W1.alloc (.cells #[.bool ng,.slice aM m cM] 104)));clear b1)
   | (go_at_call 127;(with_reducible refine C2.out.mono ?_);rintro e W2 ⟨rfl,b2⟩;have HB2:=hid (HB1.out.trans (b2.mono HB1.out.size));obtain ⟨hz2,q1,q2⟩:=fin.out 11 W2 ⟨#[]⟩ HB2.out;obtain ⟨c0,c1,c2,c3,f0,f1,f2,f3⟩:=hz2.c;have t0:=blk_cell q1 0;have t1:=blk_cell q1 1;have t2:=blk_cell q1 2;have t3:=blk_cell q1 3;have HQ2:=hid q2;clear b2 hz2 q1 q2))
  (try simp only [Exit.inBlock,Exit.then]);refine bodyPost_ret (by simp [results,Tryz.results124,go_sem,t0,t1,t2,t3];rfl) rfl ?_
  rw [hv.out]
  exact ⟨rfl,HQ2.out⟩
 ·have hg := HG hi
  rw [hi] at C
  rw [hi,Bool.true_and] at HND
  have HGD:=hid hg
  obtain ⟨ng,hng⟩ : ∃ b,b = numNeg f:=⟨_,rfl⟩
  obtain ⟨ml,hml⟩ : ∃ b,b = numMag f:=⟨_,rfl⟩
  rw [<- hng,<- hml] at C HND HGD
  obtain ⟨z,hz⟩ : ∃ z,z = sgn ng (val B32 ml):=⟨_,rfl⟩
  rw [<- hz] at HND
  have HZE:=hid hz
  rw [hW0] at C
  clear HG hg hi hng hml hz
  cases hf : fixB z
  ·have hv : Hid (bigNd f = ⟨3, 0, textOf (printL ng (val B32 ml)), []⟩) := by unfold Hid; rw [HND.out, hf]; rfl
   have HF:=hid hf
   obtain ⟨S,hS⟩ : ∃ S,S = textOf (printL ng (val B32 ml)):=⟨_,rfl⟩
   rw [<- hS] at hv
   have HS:=hid hS
   clear HND hf hS
   go_enter Tryz.func124,Tryz.ntmps124
   go_wp2_with (first
    | (go_at_call 158;(with_reducible refine C.out.mono ?_);rintro e W1 ⟨ng',aM,m,cM,rfl,h1,b1⟩;obtain ⟨rfl,hm40,hrow⟩:=h1 (by trivial);rw [<- hW0] at b1;have hb:=Ba W1 (.cells #[.bool ng',.slice aM m cM] 104);have HR1:=hid (hrow.below hb);have HB1:=hid (HBX.out W1 #[.bool ng',.slice aM m cM] b1);have hx:=blk_new W1 #[.bool ng',.slice aM m cM] 104;have HX:=hid hx;have c0 : (W1.alloc (.cells #[.bool ng',.slice aM m cM] 104)).cell? ⟨W1.heap.size,0,none⟩ = some (.bool ng'):=blk_cell hx 0;have c1 : (W1.alloc (.cells #[.bool ng',.slice aM m cM] 104)).cell? ⟨W1.heap.size,1,none⟩ = some (.slice aM m cM):=blk_cell hx 1;have C2:=hid (CF.out ng' aM m cM ml _ HR1.out HGD.out);rw [<- HZE.out] at C2;unfold PFixPost at C2;rw [HF.out] at C2;clear b1 hrow hb hx h1)
    | (go_at_call 159;(with_reducible refine C2.out.mono ?_);rintro e W2 ⟨x,rfl,_,b2⟩;have HB2:=hid (HB1.out.trans (b2.mono HB1.out.size));have hx2:=(b2.block W1.heap.size (by rw [size_alloc];omega)).trans HX.out;have d0 : W2.cell? ⟨W1.heap.size,0,none⟩ = some (.bool ng'):=blk_cell hx2 0;have d1 : W2.cell? ⟨W1.heap.size,1,none⟩ = some (.slice aM m cM):=blk_cell hx2 1;have C3:=hid (CP.out ng' aM m cM ml W2 (HR1.out.below b2) HGD.out);rw [<- HS.out] at C3;clear b2 hx2)
    | (go_at_call 160;(with_reducible refine C3.out.mono ?_);rintro e W3 ⟨rfl,b3⟩;have HB3:=hid (HB2.out.trans (b3.mono HB2.out.size));obtain ⟨hz2,q1,q2⟩:=fin.out 3 W3 S HB3.out;obtain ⟨c0,c1,c2,c3,f0,f1,f2,f3⟩:=hz2.c;have t0:=blk_cell q1 0;have t1:=blk_cell q1 1;have t2:=blk_cell q1 2;have t3:=blk_cell q1 3;have HQ2:=hid q2;clear b3 hz2 q1 q2))
   (try simp only [Exit.inBlock,Exit.then]);refine bodyPost_ret (by simp [results,Tryz.results124,go_sem,t0,t1,t2,t3];rfl) rfl ?_
   rw [hv.out]
   exact ⟨rfl,HQ2.out⟩
  ·have hv : Hid (bigNd f = voidN) := by unfold Hid; rw [HND.out, hf]; rfl
   have HF:=hid hf
   clear HND hf
   go_enter Tryz.func124,Tryz.ntmps124
   go_wp2_with (first
    | (go_at_call 158;(with_reducible refine C.out.mono ?_);rintro e W1 ⟨ng',aM,m,cM,rfl,h1,b1⟩;obtain ⟨rfl,hm40,hrow⟩:=h1 (by trivial);rw [<- hW0] at b1;have hb:=Ba W1 (.cells #[.bool ng',.slice aM m cM] 104);have HR1:=hid (hrow.below hb);have HB1:=hid (HBX.out W1 #[.bool ng',.slice aM m cM] b1);have hx:=blk_new W1 #[.bool ng',.slice aM m cM] 104;have c0 : (W1.alloc (.cells #[.bool ng',.slice aM m cM] 104)).cell? ⟨W1.heap.size,0,none⟩ = some (.bool ng'):=blk_cell hx 0;have c1 : (W1.alloc (.cells #[.bool ng',.slice aM m cM] 104)).cell? ⟨W1.heap.size,1,none⟩ = some (.slice aM m cM):=blk_cell hx 1;have C2:=hid (CF.out ng' aM m cM ml _ HR1.out HGD.out);rw [<- HZE.out] at C2;unfold PFixPost at C2;rw [HF.out] at C2;clear b1 hrow hb hx h1)
    | (go_at_call 159;(with_reducible refine C2.out.mono ?_);rintro e W2 ⟨x,rfl,_,b2⟩;have HB2:=hid (HB1.out.trans (b2.mono HB1.out.size));have C3:=hid (CV.out W2);clear b2)
    | (go_at_call 127;(with_reducible refine C3.out.mono ?_);rintro e W3 ⟨rfl,b3⟩;have HB3:=hid (HB2.out.trans (b3.mono HB2.out.size));obtain ⟨hz2,q1,q2⟩:=fin.out 11 W3 ⟨#[]⟩ HB3.out;obtain ⟨c0,c1,c2,c3,f0,f1,f2,f3⟩:=hz2.c;have t0:=blk_cell q1 0;have t1:=blk_cell q1 1;have t2:=blk_cell q1 2;have t3:=blk_cell q1 3;have HQ2:=hid q2;clear b3 hz2 q1 q2))
   (try simp only [Exit.inBlock,Exit.then]);refine bodyPost_ret (by simp [results,Tryz.results124,go_sem,t0,t1,t2,t3];rfl) rfl ?_
   rw [hv.out]
   exact ⟨rfl,HQ2.out⟩
end Go.Proofs.YticimejfjjmikaaGreatDoor
