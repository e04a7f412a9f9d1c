import Derived.Test.YticimejfjjmikaaGreatDoorSL13
set_option linter.unusedVariables false
set_option linter.unusedSimpArgs false
set_option maxRecDepth 100000
namespace Go.Proofs.YticimejfjjmikaaGreatDoor
open Go.RowKit
theorem zgw {n : Nat} {d : Nd} (hn : qf n d = true) (hd : LNd d) (hk : d.kids ≠ []) : d.kind = 7 \/ d.kind = 8:=by
 obtain ⟨_,_,_,_,h5,_⟩:=zbj hn
 have h11 : ¬ 11 < d.kind:=fun h=>by have:=(zjm hd.c).2 h;have:=hd.sz;omega
 by_cases h7 : d.kind = 7
 ·exact .inl h7
 by_cases h8 : d.kind = 8
 ·exact .inr h8
 exact absurd (zxc h5 h7 (by omega) h8 (by omega) (by omega)) hk
def inO (ws : List Int) (os : List Ob) (cs : List Nd) (q j : Nat) : List Ob:=if (cs.getD q default).kids = [] then mixO ws os cs q else midO ws os cs q j
theorem zfe1 {ws : List Int} {os : List Ob} {cs : List Nd} {q : Nat} (h : q < cs.length) (hk : (cs.getD q default).kids ≠ [] -> (cs.getD q default).kind = 7 \/ (cs.getD q default).kind = 8) : inO ws os cs q 0 = mixO ws os cs q:=by
 unfold inO
 by_cases e : (cs.getD q default).kids = []
 ·rw [if_pos e]
 ·rw [if_neg e,zql h (hk e)]
theorem zhm1 {ws : List Int} {os : List Ob} {cs : List Nd} {q : Nat} (h : q < cs.length) (hk : (cs.getD q default).kids ≠ [] -> (cs.getD q default).kind = 7 \/ (cs.getD q default).kind = 8) : inO ws os cs q (cs.getD q default).kids.length = mixO ws os cs (q + 1):=by
 unfold inO
 by_cases e : (cs.getD q default).kids = []
 ·rw [if_pos e,zba1 h e]
 ·rw [if_neg e,zez1 h (hk e)]
theorem zhn1 {N : Int} {os : List Ob} {nm : List ByteArray} {cs : List Nd} (h : fz N os nm cs) {q j : Nat} (hq : q < cs.length) (hk : (cs.getD q default).kids ≠ [] -> (cs.getD q default).kind = 7 \/ (cs.getD q default).kind = 8) (hj : j < (cs.getD q default).kids.length) :
  (setM (inO (putS nm (zc os) cs).ws os cs q j) ((putS nm (zc os) cs).ws.getD q 0) 0 (j : Nat) ((putS nm (zc os) cs).ws.getD ((cs.getD q default).kids.getD j 0).toNat 0)).1 = inO (putS nm (zc os) cs).ws os cs q (j + 1):=by
 have e : (cs.getD q default).kids ≠ []:=fun e=>by rw [e] at hj;simp at hj
 unfold inO
 rw [if_neg e,if_neg e,zfa1 h hq (hk e) hj]
theorem zff1 {l : List Int} {n : Nat} (P : Int) (h : 0 < n) : (l ++ List.replicate n 0).set l.length P = (l ++ [P]) ++ List.replicate (n - 1) 0:=by
 obtain ⟨m,rfl⟩ : ∃ m,n = m + 1:=⟨n - 1,by omega⟩
 rw [List.set_append_right _ _ (Nat.le_refl _),Nat.sub_self,List.replicate_succ,List.set_cons_zero,List.append_assoc]
 rfl
theorem ztb : (Tryz.prog.info? 44).map (fun i=>(i.zero,i.size,i.bytes)) = some (some (.int .u64 0),1,8):=by kernel_rfl
theorem zfg1 (n : Nat) : madeCells #[.int .u64 0] n = (uz (List.replicate n 0)).toArray:=by
 apply Array.ext'
 simp only [madeCells,uz,List.map_replicate,List.toList_toArray]
 rw [List.eq_replicate_iff]
 refine ⟨by simp,fun x hx=>?_⟩
 simp [Nat.mod_one] at hx
 exact hx.2.symm
section
variable {B : Nat} {v vn : Value} {N : Int} {os : List Ob} {nm : List ByteArray} {F : Nat -> Prop}
def zjs (B : Nat) (v vn : Value) (N : Int) (F : Nat -> Prop) (w : World) (ws : List Int) (os' : List Ob) (nm' : List ByteArray) (e : Ending) (w' : World) : Prop :=
 ∃ gw,e = .returned (.slice (some ⟨gw,0,none⟩) ws.length ws.length) /\ w.heap.size <= gw /\ w'.heap[gw]? = some (.cells (uz ws).toArray 44 (0,0)) /\ ∃ F',PN B v vn N os' nm' F' w' /\ (∀ b,F' b -> F b \/ w.heap.size <= b) /\ ¬ F' gw /\ Mod F w w'
set_option maxHeartbeats 8000000 in
theorem ztc (an : Option Addr) (nn cn : Nat) (cs : List Nd) (w : World) (b0 : Nat) (h : PN B v vn N os nm F w) (hok : fz N os nm cs) (hL : ∀ d ∈ cs, LNd d) (hF0 : ∀ b, F b -> b < b0) (hb0 : b0 <= w.heap.size) (hlen : cs.length = nn)
  (K : ∀ wx : World,w.heap.size <= wx.heap.size -> (∀ b,b0 <= b -> b < w.heap.size -> wx.heap[b]? = w.heap[b]?) -> NRow wx an nn cn cs) (hn : nn <= 100) (hB : B <= w.heap.size) (hnm : nm.length <= 900000) :
  Calls Tryz.prog 87 #[v,vn,.slice an nn cn] w (zjs B v vn N F w (putS nm (zc os) cs).ws (os ++ z7 (putS nm (zc os) cs).ws cs) (putS nm (zc os) cs).nm):=by
 have hR:=K w (Nat.le_refl _) (fun b _ _=>rfl)
 have hf:=hR.fits
 have hm:=hR.most
 unfold maxLen at hm
 have HOK:=hid hok
 have HL:=hid hL
 have HK:=hid K
 have HF0:=hid hF0
 have HOS:=hid h.fine
 have hmk:=fun wx=>run_make_row' (P:=Tryz.prog) 23 44 (.int .u64 0) 8 Tryz.underlying23 ztb rfl .i64 .i64 nn (by omega) (by omega) wx
 obtain ⟨gh,gp,rfl,rfl⟩:=h.ptrs
 obtain ⟨u,hu⟩ : ∃ u,u = zc os:=⟨_,rfl⟩
 rw [<- hu]
 have HU:=hid hu
 obtain ⟨W0,hW0⟩ : ∃ W,W = w.alloc (.cells (madeCells #[.int .u64 0] nn) 44):=⟨_,rfl⟩
 have hs0 : W0.heap.size = w.heap.size + 1:=by rw [hW0,zb]
 have HS0:=hid hs0
 have hb1 : Below w.heap.size w W0:=by rw [hW0];exact Ba w _
 have HB1:=hid hb1
 obtain ⟨gw,hgw⟩ : ∃ g,g = w.heap.size:=⟨_,rfl⟩
 have HGW:=hid hgw
 have HQ0 : Hid (LQ B (.pointer (some ⟨gh,0,none⟩)) (.pointer (some ⟨gp,0,none⟩)) N F W0 gw os nm (List.replicate nn 0) W0):=by
  refine ⟨⟨F,h.on hb1,fun b e=>.inl e⟩,Mod.refl _ _,?_,by omega,fun e=>by have:=(h.ge _ e).2;omega⟩
  rw [hgw,hW0,<- zfg1]
  exact zd _ _ _
 have HAG : Hid (∀ wx,Mod (fun b=>F b \/ b = gw) W0 wx -> zxu b0 w wx):=fun wx m=>⟨by have:=m.size;omega,fun b e1 e2=>by
  rw [m.block b (by omega) (fun e=>by rcases e with e | e;have:=HF0.out b e;omega;omega)]
  exact HB1.out.block b e2⟩
 have HROW : Hid (∀ wx,Mod (fun b=>F b \/ b = gw) W0 wx -> NRow wx an nn cn cs):=fun wx m=>HK.out wx (HAG.out wx m).1 (HAG.out wx m).2
 have fin : Hid (∀ (wx : World) (ws : List Int) (os' : List Ob) (nm' : List ByteArray),LQ B (.pointer (some ⟨gh,0,none⟩)) (.pointer (some ⟨gp,0,none⟩)) N F W0 gw os' nm' ws wx -> ws.length = nn -> zjs B (.pointer (some ⟨gh,0,none⟩)) (.pointer (some ⟨gp,0,none⟩)) N F w ws os' nm' (.returned (.slice (some ⟨gw,0,none⟩) nn nn)) wx):=fun wx ws os' nm' hq hl=>by
  obtain ⟨F',p1,p2⟩:=hq.pn
  have e1:=HGW.out
  have e2:=HS0.out
  refine ⟨gw,by rw [hl],by omega,hq.row,F',p1,fun b e=>(p2 b e).imp id (fun e=>by omega),fun e=>?_,(Mod.of_below F HB1.out).trans hq.mod (fun b hb e=>?_)⟩
  ·rcases p2 gw e with e | e
   ·exact hq.off e
   ·omega
  ·rcases e with e | e
   ·exact e
   ·omega
 have HWL : Hid ((putS nm u cs).ws.length = nn):=by
  have:=fg (nm:=nm) (a:=u) (cs:=cs) cs.length (Nat.le_refl _)
  rw [List.take_length] at this
  exact this.trans hlen
 have HBB : Hid (B <= W0.heap.size):=by unfold Hid;omega
 clear h hok hL hF0 K hR hu hb1
 go_enter Tryz.func87,Tryz.ntmps87
 go_wp2_with fail
 rw [<- hW0,<- hgw]
 clear hmk hW0 hgw hs0 hB hb0
 go_loopw [8,9,19] (fun _ _ i wr=>∃ q : Nat,q <= nn /\ i = .int .i64 q /\ Hid (LQ B (.pointer (some ⟨gh,0,none⟩)) (.pointer (some ⟨gp,0,none⟩)) N F W0 gw (os ++ yk (cs.take q)) (putS nm u (cs.take q)).nm ((putS nm u (cs.take q)).ws ++ List.replicate (nn - q) 0) wr)) (fun _ _ i _=>nn - (intOf i).toNat)
 case atStart=>exact ⟨0,Nat.zero_le _,rfl,hid (by have:=HQ0.out;simpa [yk,putS] using this)⟩
 case round =>
  obtain ⟨q,hq,rfl,HI⟩:=hrel
  by_cases hlt : q < nn
  ·have hql : q < cs.length := by omega
   obtain ⟨b,o,rfl,hlb,hc⟩:=(HROW.out wr HI.out.mod).some (by omega)
   obtain ⟨k1,k2,k3,ak,nk,ck,k4,k5⟩:=hc q hlt
   have hmm : cs.getD q default∈cs:=by rw [List.getD_eq_getElem?_getD,List.getElem?_eq_getElem hql];exact List.getElem_mem _
   have hd:=HL.out _ hmm
   have hnd:=HOK.out.nd _ hmm
   have hlk:=k5.len
   obtain ⟨P,t1,t2,t3,t4⟩:=zbl1 (N:=N) (nm:=nm) (os:=os) HOK.out hql hd.sz
   rw [<- HU.out] at t1 t4
   have hsl:=fg (nm:=nm) (a:=u) (cs:=cs) q (by omega)
   have hsn:=zoh (nm:=nm) (a:=u) (cs:=cs) q (by omega)
   have CS : Hid (∀ W,LQ B (.pointer (some ⟨gh,0,none⟩)) (.pointer (some ⟨gp,0,none⟩)) N F W0 gw (os ++ yk (cs.take q)) (putS nm u (cs.take q)).nm ((putS nm u (cs.take q)).ws ++ List.replicate (nn - q) 0) W -> Calls Tryz.prog 143 #[.pointer (some ⟨gh,0,none⟩),.pointer (some ⟨gp,0,none⟩),vg (cs.getD q default) ak ck] W fun e w'=>e = .returned (.int .u64 P) /\ LQ B (.pointer (some ⟨gh,0,none⟩)) (.pointer (some ⟨gp,0,none⟩)) N F W0 gw (os ++ yk (cs.take (q + 1))) (jr (putS nm u (cs.take q)).nm (cs.getD q default)) ((putS nm u (cs.take q)).ws ++ List.replicate (nn - q) 0) w'):=fun W hq=>by
    obtain ⟨F',p1,p2⟩:=hq.pn
    obtain ⟨_,_,n3,_⟩:=zbj hnd
    refine (zfd1 (cs.getD q default) ak ck W p1 hd (fun e=>?_) (fun e=>?_) (by rw [hlk];exact k5.fits) (by have:=k5.most;unfold maxLen at this;omega) (Nat.le_trans HBB.out hq.size) (by omega) P _ (zbk1 HOS.out _) t3 t4).mono ?_
    ·rw [e,zoy,Bool.or_eq_true,decide_eq_true_eq,decide_eq_true_eq] at n3;exact n3
    ·rw [e,zoz] at n3;exact n3
    ·rintro e w' ⟨rfl, p⟩
     exact ⟨rfl,hq.step p2 p⟩
   have HSTEP : Hid ((putS nm u (cs.take (q + 1))).ws ++ List.replicate (nn - (q + 1)) 0 = ((putS nm u (cs.take q)).ws ++ List.replicate (nn - q) 0).set q P):=by
    unfold Hid
    have e1:=zff1 (l:=(putS nm u (cs.take q)).ws) (n:=nn - q) P (by omega)
    rw [hsl] at e1
    rw [e1,t1,show nn - q - 1 = nn - (q + 1) by omega]
   have HNM : Hid ((putS nm u (cs.take (q + 1))).nm = jr (putS nm u (cs.take q)).nm (cs.getD q default)):=by unfold Hid;rw [t1]
   have hrl : Hid (((putS nm u (cs.take q)).ws ++ List.replicate (nn - q) 0).length = nn):=by unfold Hid;rw [List.length_append,hsl,List.length_replicate];omega
   unfold vg at CS
   rw [hlk] at CS
   obtain ⟨L,hLL⟩ : ∃ L,L = (putS nm u (cs.take q)).ws ++ List.replicate (nn - q) 0:=⟨_,rfl⟩
   rw [<- hLL] at CS HSTEP hrl HI
   obtain ⟨N1,hN1⟩ : ∃ L,L = (putS nm u (cs.take q)).nm:=⟨_,rfl⟩
   rw [<- hN1] at CS HNM HI
   obtain ⟨d,hdd⟩ : ∃ d,d = cs.getD q default:=⟨_,rfl⟩
   rw [<- hdd] at k1 k2 k3 CS HNM
   have HRL : Hid (∀ (W : World) (o2 : List Ob) (m2 : List ByteArray),LQ B (.pointer (some ⟨gh,0,none⟩)) (.pointer (some ⟨gp,0,none⟩)) N F W0 gw o2 m2 L W -> W.cell? ⟨gw,q,none⟩ = some (.int .u64 (L.getD q 0)) /\ W.frozen? ⟨gw,q,none⟩ = false):=fun W o2 m2 hq=>⟨hq.cell (by rw [hrl.out];exact hlt),zf hq.row q⟩
   obtain ⟨y,hy⟩ : ∃ y,y = L.getD q 0:=⟨_,rfl⟩
   rw [<- hy] at HRL
   obtain ⟨nm2,hnm2⟩ : ∃ n,n = jr N1 d:=⟨_,rfl⟩
   rw [<- hnm2] at CS HNM
   obtain ⟨dk,dn,dt,dl⟩:=d
   simp only at k1 k2 k3 CS
   have hx:=zd wr #[.int .i64 dk,.int .i64 dn,.string dt,.slice ak nk ck] 54
   have b0 : (wr.alloc (.cells #[.int .i64 dk,.int .i64 dn,.string dt,.slice ak nk ck] 54)).cell? ⟨wr.heap.size,0,none⟩ = some (.int .i64 dk):=za hx 0
   have b1 : (wr.alloc (.cells #[.int .i64 dk,.int .i64 dn,.string dt,.slice ak nk ck] 54)).cell? ⟨wr.heap.size,1,none⟩ = some (.int .i64 dn):=za hx 1
   have b2 : (wr.alloc (.cells #[.int .i64 dk,.int .i64 dn,.string dt,.slice ak nk ck] 54)).cell? ⟨wr.heap.size,2,none⟩ = some (.string dt):=za hx 2
   have b3 : (wr.alloc (.cells #[.int .i64 dk,.int .i64 dn,.string dt,.slice ak nk ck] 54)).cell? ⟨wr.heap.size,3,none⟩ = some (.slice ak nk ck):=za hx 3
   have C2:=hid (CS.out _ (HI.out.on (Ba wr (.cells #[.int .i64 dk,.int .i64 dn,.string dt,.slice ak nk ck] 54))))
   clear hc hmm hd hnd hdd k5 hlk hx t1 t2 t3 t4 hsl hsn hLL hN1 hy hnm2
   go_wp2_with (go_at_call 143;(with_reducible refine C2.out.mono ?_);rintro e W4 ⟨rfl,q4⟩;have HQ4:=hid q4;obtain ⟨r1,r2⟩:=HRL.out W4 _ _ q4;clear q4)
   refine ⟨⟨q + 1,by omega,by go_num,?_⟩,by simp [intOf] <;> omega⟩
   rw [HSTEP.out,HNM.out]
   exact HQ4.out.put q P
  ·obtain rfl : nn = q := by omega
   have hI2:=HI.out
   rw [Nat.sub_self,List.replicate_zero,List.append_nil,List.take_of_length_le (by omega)] at hI2
   have e0 : os ++ yk cs = mixO (putS nm u cs).ws os cs 0:=(zaz1 _ _ _).symm
   rw [e0] at hI2
   have HI2:=hid hI2
   clear HI hI2 e0
   have HWU : Hid (∀ z∈(putS nm u cs).ws,U64 z):=by
    have:=zqg (nm:=nm) (a:=u) (cs:=cs) cs.length (Nat.le_refl _)
    rw [List.take_length] at this
    exact this
   have HIS : Hid (∀ q j,q < cs.length -> j < (cs.getD q default).kids.length -> (setM (inO (putS nm u cs).ws os cs q j) ((putS nm u cs).ws.getD q 0) 0 (j : Nat) ((putS nm u cs).ws.getD ((cs.getD q default).kids.getD j 0).toNat 0)).1 = inO (putS nm u cs).ws os cs q (j + 1)):=fun q' j hq' hj=>by
    have hmm : cs.getD q' default∈cs:=by rw [List.getD_eq_getElem?_getD,List.getElem?_eq_getElem hq'];exact List.getElem_mem _
    have:=zhn1 HOK.out hq' (zgw (HOK.out.nd _ hmm) (HL.out _ hmm)) hj
    rw [<- HU.out] at this
    exact this
   have HIZ : Hid (∀ q,q < cs.length -> inO (putS nm u cs).ws os cs q 0 = mixO (putS nm u cs).ws os cs q /\ inO (putS nm u cs).ws os cs q (cs.getD q default).kids.length = mixO (putS nm u cs).ws os cs (q + 1)):=fun q' hq'=>by
    have hmm : cs.getD q' default∈cs:=by rw [List.getD_eq_getElem?_getD,List.getElem?_eq_getElem hq'];exact List.getElem_mem _
    exact ⟨zfe1 hq' (zgw (HOK.out.nd _ hmm) (HL.out _ hmm)),zhm1 hq' (zgw (HOK.out.nd _ hmm) (HL.out _ hmm))⟩
   have HMA : Hid (mixO (putS nm u cs).ws os cs cs.length = os ++ z7 (putS nm u cs).ws cs):=zey1 _ _ _
   obtain ⟨ws,hws⟩ : ∃ ws,ws = (putS nm u cs).ws:=⟨_,rfl⟩
   obtain ⟨nm2,hnm2⟩ : ∃ ws,ws = (putS nm u cs).nm:=⟨_,rfl⟩
   rw [<- hws] at HI2 HWU HIS HIZ HWL HMA
   rw [<- hnm2] at HI2
   have HWS:=hid hws
   have HNS:=hid hnm2
   clear hws hnm2
   go_wp2_with fail
   go_loopw [10,11,12,13,34] (fun _ _ _ _ i wr=>∃ q : Nat,q <= nn /\ i = .int .i64 q /\ Hid (LQ B (.pointer (some ⟨gh,0,none⟩)) (.pointer (some ⟨gp,0,none⟩)) N F W0 gw (mixO ws os cs q) nm2 ws wr)) (fun _ _ _ _ i _=>nn - (intOf i).toNat)
   case atStart=>exact ⟨0,Nat.zero_le _,rfl,HI2.out⟩
   case round =>
    obtain ⟨q,hq,rfl,HI⟩:=hrel
    by_cases hlt : q < nn
    ·have hql : q < cs.length := by omega
     obtain ⟨b,o,ak,nk,ck,ean,hfx⟩:=zta (fun wx hx=>HK.out wx hx.1 hx.2) hlt
     have HFX:=hid hfx
     obtain ⟨k1,k2,k3,k4,k5⟩:=hfx wr (HAG.out wr HI.out.mod)
     have hmm : cs.getD q default∈cs:=by rw [List.getD_eq_getElem?_getD,List.getElem?_eq_getElem hql];exact List.getElem_mem _
     have hlk:=k5.len
     have hkf:=k5.fits
     have hkm:=k5.most
     unfold maxLen at hkm
     have hk100:=(HL.out _ hmm).c.kids
     have HKR : Hid (∀ j,j < (cs.getD q default).kids.length -> ∃ m : Nat,(cs.getD q default).kids.getD j 0 = (m : Int) /\ m < nn):=fun j hj=>by
      have h1:=zz (zbj (HOK.out.nd _ hmm)).2.2.2.2.2 _ (zq hj)
      exact ⟨((cs.getD q default).kids.getD j 0).toNat,by omega,by omega⟩
     have HIS1:=hid (fun j=>HIS.out q j hql)
     obtain ⟨z1,z2⟩:=HIZ.out q hql
     rw [hlk] at z2
     have HZ1:=hid z1
     have HZ2:=hid z2
     have HIR : Hid (∀ wx,LQ B (.pointer (some ⟨gh,0,none⟩)) (.pointer (some ⟨gp,0,none⟩)) N F W0 gw (mixO ws os cs q) nm2 ws wx \/ (∃ j,LQ B (.pointer (some ⟨gh,0,none⟩)) (.pointer (some ⟨gp,0,none⟩)) N F W0 gw (inO ws os cs q j) nm2 ws wx) -> IRow wx ak nk ck (cs.getD q default).kids):=fun wx hx=>by
      rcases hx with hx | ⟨j,hx⟩
      ·exact (HFX.out wx (HAG.out wx hx.mod)).2.2.2.2
      ·exact (HFX.out wx (HAG.out wx hx.mod)).2.2.2.2
     have CS : Hid (∀ (j : Nat) (W : World),j < nk -> LQ B (.pointer (some ⟨gh,0,none⟩)) (.pointer (some ⟨gp,0,none⟩)) N F W0 gw (inO ws os cs q j) nm2 ws W -> Calls Tryz.prog 36 #[.pointer (some ⟨gh,0,none⟩),.int .u64 (ws.getD q 0),.int .i64 0,.int .i64 (j : Nat),.int .u64 (ws.getD ((cs.getD q default).kids.getD j 0).toNat 0)] W fun e w'=>∃ r,e = .returned (.int .i64 r) /\ LQ B (.pointer (some ⟨gh,0,none⟩)) (.pointer (some ⟨gp,0,none⟩)) N F W0 gw (inO ws os cs q (j + 1)) nm2 ws w'):=fun j W hj hq=>by
      obtain ⟨F',p1,p2⟩:=hq.pn
      have hwl:=HWL.out
      obtain ⟨m,em,hm⟩:=HKR.out j (by rw [hlk];exact hj)
      have hset:=HIS1.out j (by rw [hlk];exact hj)
      refine (zhj1 p1 (ws.getD q 0) 0 (j : Nat) (ws.getD ((cs.getD q default).kids.getD j 0).toNat 0) (HWU.out _ (zq (by omega))) (by unfold Z64;omega) (by unfold Z64;omega) (HWU.out _ (zq (by rw [em];omega))) (Nat.le_trans HBB.out hq.size)).mono ?_
      rintro e w' ⟨rfl,p⟩
      rw [hset] at p
      exact ⟨_,rfl,hq.step p2 p⟩
     obtain ⟨d,hdd⟩ : ∃ d,d = cs.getD q default:=⟨_,rfl⟩
     rw [<- hdd] at k1 k2 k3 HKR HIR CS hlk
     obtain ⟨dk,dn,dt,dl⟩:=d
     simp only at k1 k2 k3 HKR HIR CS hlk
     have hx:=zd wr #[.int .i64 dk,.int .i64 dn,.string dt,.slice ak nk ck] 54
     have b3 : (wr.alloc (.cells #[.int .i64 dk,.int .i64 dn,.string dt,.slice ak nk ck] 54)).cell? ⟨wr.heap.size,3,none⟩ = some (.slice ak nk ck):=za hx 3
     have HI4 : Hid (LQ B (.pointer (some ⟨gh,0,none⟩)) (.pointer (some ⟨gp,0,none⟩)) N F W0 gw (inO ws os cs q 0) nm2 ws (wr.alloc (.cells #[.int .i64 dk,.int .i64 dn,.string dt,.slice ak nk ck] 54))):=by
      unfold Hid
      rw [HZ1.out]
      exact HI.out.on (Ba wr _)
     subst ean
     clear hfx hmm k5 hk100 z1 z2 hdd hx HI
     go_wp2_with fail
     obtain ⟨WB,hWB⟩ : ∃ W,W = wr.alloc (.cells #[.int .i64 dk,.int .i64 dn,.string dt,.slice ak nk ck] 54):=⟨_,rfl⟩
     rw [<- hWB] at HI4 ⊢
     clear b3 k1 k2 k3 k4 hWB
     go_loopw [12,13,42] (fun _ _ i wr=>∃ j : Nat,j <= nk /\ i = .int .i64 j /\ Hid (LQ B (.pointer (some ⟨gh,0,none⟩)) (.pointer (some ⟨gp,0,none⟩)) N F W0 gw (inO ws os cs q j) nm2 ws wr)) (fun _ _ i _=>nk - (intOf i).toNat)
     case atStart=>exact ⟨0,Nat.zero_le _,rfl,HI4.out⟩
     case round =>
      obtain ⟨j,hj,rfl,HJ⟩:=hrel
      by_cases hlj : j < nk
      ·obtain ⟨b5, o5, rfl, hl5, hc5⟩ := (HIR.out wr (.inr ⟨j, HJ.out⟩)).some (by omega)
       have c5:=hc5 j hlj
       obtain ⟨m,em,hm⟩:=HKR.out j (by omega)
       have C2:=hid (CS.out j wr.drew hlj (HJ.out.on (gf wr)))
       rw [em] at c5
       rw [em,Int.toNat_natCast] at C2
       have hwl:=HWL.out
       have x1:=HJ.out.cell (k:=q) (by omega)
       have x2:=HJ.out.cell (k:=m) (by omega)
       obtain ⟨y1,hy1⟩ : ∃ y,y = ws.getD q 0:=⟨_,rfl⟩
       obtain ⟨y2,hy2⟩ : ∃ y,y = ws.getD m 0:=⟨_,rfl⟩
       rw [<- hy1] at x1 C2
       rw [<- hy2] at x2 C2
       clear hc5 em hy1 hy2 hwl
       go_wp2_with fail
       go_region_with (go_at_call 36;(with_reducible refine C2.out.mono ?_);rintro e W1 ⟨r,rfl,q1⟩;have HQ1:=hid q1;clear q1)
       all_goals
        go_wp2_with fail
        exact ⟨⟨j + 1,by omega,by go_num,HQ1.out⟩,by simp [intOf] <;> omega⟩
      ·obtain rfl : nk = j := by omega
       have hJ2:=HJ.out
       rw [HZ2.out] at hJ2
       have HJ2:=hid hJ2
       clear hJ2
       go_wp2_with fail
       exact ⟨⟨q + 1,by omega,by go_num,HJ2.out⟩,by simp [intOf] <;> omega⟩
    ·obtain rfl : nn = q := by omega
     have hI3:=HI.out
     rw [<- hlen,HMA.out] at hI3
     have HI3:=hid hI3
     clear HI hI3
     go_wp2_with fail
     go_ret
     rw [<- HWS.out,<- HNS.out]
     exact fin.out _ _ _ _ HI3.out HWL.out
end
section
variable {B : Nat} {v vn : Value} {N : Int} {os : List Ob} {nm : List ByteArray} {F : Nat -> Prop}
def zfh1 (B : Nat) (v vn : Value) (N : Int) (F : Nat -> Prop) (w : World) (r : List Int × Int × List Ob × List ByteArray) (e : Ending) (w' : World) : Prop :=
 ∃ ao cap, e = .returned (.tuple #[.slice ao r.1.length cap, .int .i64 r.2.1]) /\ URow w' ao r.1.length cap r.1 /\
   ∃ F',PN B v vn N r.2.2.1 r.2.2.2 F' w' /\ (∀ b,F' b -> F b \/ w.heap.size <= b) /\ Mod F w w' /\ (∀ a,ao = some a -> ¬ F' a.block) /\ (∀ a,ao = some a -> w.heap.size <= a.block)
theorem zbm1 (w : World) : URow w none 0 0 []:=⟨rfl,Nat.le_refl _,Nat.zero_le _,fun _=>rfl,fun z h=>(by cases h),.inl rfl⟩
set_option maxHeartbeats 8000000 in
theorem zfi1 (an ar : Option Addr) (nn cn nr cr : Nat) (ns : List Nd) (rs : List Int) (w : World) (h : PN B v vn N os nm F w) (G : GOk w an nn cn ar nr cr ns rs) (hn : nn <= 100) (hnr : nr <= 100) (hB : B <= w.heap.size) (hnm : nm.length <= 900000) (hT : vx w) :
  Calls Tryz.prog 46 #[v,vn,GVal an nn cn ar nr cr] w (zfh1 B v vn N F w (putR N os nm ns rs)):=by
 have b0:=Ba w (.cells #[.slice an nn cn,.slice ar nr cr] 34)
 have hx:=GBox.new 34 w an ar nn cn nr cr
 obtain ⟨c0,c1⟩:=hx.c
 have C:=hid (zml an ar nn cn nr cr ns rs (w.alloc (.cells #[.slice an nn cn,.slice ar nr cr] 34)) (G.below b0) hn (hT.1.below b0))
 have HB0:=hid b0
 have hlen : ns.length = nn:=G.is.nodes.len
 have hrl : rs.length = nr:=G.is.roots.len
 have f1:=G.is.nodes.fits
 have f2:=G.is.nodes.most
 have f3:=G.is.roots.fits
 have f4:=G.is.roots.most
 unfold maxLen at f2 f4
 have HH:=hid h
 have HL:=hid (zxn ns rs)
 have HNL:=hid (zqh (rs:=rs) G.small G.kids (by omega))
 have HN : Hid (layB ns rs = true -> _):=fun h=>zss h G.small G.kids (by omega)
 obtain ⟨bd1,bd2⟩:=h.bd
 obtain ⟨gh,gp,rfl,rfl⟩:=h.ptrs
 have HBB:=hid hB
 have HR : Hid (putR N os nm ns rs = if vk ns rs < 0 then ([],20,os,nm) else if N - (zc os : Nat) < vk ns rs then ([],3,os,nm)
  else ((zg ns rs).2.map (fun i : Int=>(putS nm (zc os) (zg ns rs).1).ws.getD i.toNat 0),0,putO N (putS nm (zc os) (zg ns rs).1).ws os (zg ns rs).1,(putS nm (zc os) (zg ns rs).1).nm)):=rfl
 obtain ⟨R,hR⟩ : ∃ R,R = putR N os nm ns rs:=⟨_,rfl⟩
 rw [<- hR] at HR ⊢
 have nofail : Hid (∀ (k : Int) W,Below w.heap.size w W -> R = ([],k,os,nm) -> zfh1 B (.pointer (some ⟨gh,0,none⟩)) (.pointer (some ⟨gp,0,none⟩)) N F w R (.returned (.tuple #[.slice none 0 0,.int .i64 k])) W):=fun k W b e=>by
  rw [e]
  exact ⟨none,0,rfl,zbm1 _,F,HH.out.on b,fun b e=>.inl e,Mod.of_below F b,fun a e=>(by cases e),fun a e=>(by cases e)⟩
 unfold xz at C
 unfold GVal at C ⊢
 rw [HL.out] at HR HNL
 clear G hT hx b0 h hB hR
 cases hb : layB ns rs
 ·simp only [hb, Bool.false_eq_true, ↓reduceIte] at C
  have e1 : (if layB ns rs = true then sumN (zg ns rs).1 else -1) = -1:=by rw [hb];rfl
  rw [e1,if_pos (by omega)] at HR
  clear HN HL hb HNL
  go_enter Tryz.func46,Tryz.ntmps46
  go_wp2_with (go_at_call 84;(with_reducible refine C.out.mono ?_);rintro e W1 ⟨rfl,b1⟩;have HB1:=hid (Bt (Bt HB0.out b1) (Ba W1 (.cells #[.slice none 0 0,.slice none 0 0] 34)));clear b1)
  go_ret2
  exact nofail.out 20 _ HB1.out HR.out
 simp only [hb,↓reduceIte] at C
 have e1 : (if layB ns rs = true then sumN (zg ns rs).1 else -1) = sumN (zg ns rs).1:=by rw [hb];rfl
 rw [e1] at HR HNL
 clear e1
 obtain ⟨n1,n2,n3,n4,n5⟩:=HN.out hb
 have CW : Hid (∀ (a1 : Option Addr) (m1 c1 : Nat) (W : World),NRow W a1 m1 c1 (zg ns rs).1 -> m1 <= 2500 -> Calls Tryz.prog 85 #[.slice a1 m1 c1] W fun e w'=>e = .returned (.int .i64 (sumN (zg ns rs).1)) /\ Below W.heap.size W w'):=fun a1 m1 c1 W R hm=>zsq a1 m1 c1 _ W R (fun d hd=>(n1 d hd).1) hm
 have CR : Hid (∀ W,Below w.heap.size w W -> Calls Tryz.prog 86 #[.pointer (some ⟨gh,0,none⟩)] W fun e w'=>e = .returned (.int .i64 (N - (zc os : Nat))) /\ Below W.heap.size W w'):=fun W b=>(HH.out.on b).room
 have hz0 : 0 <= sumN (zg ns rs).1:=fh (fun d hd=>of_decide_eq_true (List.all_eq_true.1 n5 d hd))
 rw [if_neg (by omega)] at HR
 have hnl:=HNL.out
 obtain ⟨r,hr⟩ : ∃ r : Int,r = N - (zc os : Nat):=⟨_,rfl⟩
 have hrr:=hr
 rw [<- hr] at CR HR
 have HN1:=hid n1
 have HN4:=hid n4
 have HN5:=hid n5
 clear HN HL hb HNL n1 n4 n5 hr
 obtain ⟨cs,hcs⟩ : ∃ c,c = (zg ns rs).1:=⟨_,rfl⟩
 obtain ⟨crs,hcrs⟩ : ∃ c,c = (zg ns rs).2:=⟨_,rfl⟩
 rw [<- hcs] at C CW n2 hz0 hnl HN1 HN4 HN5 HR
 rw [<- hcrs] at C n3 HN4 HR
 obtain ⟨z,hz⟩ : ∃ z,z = sumN cs:=⟨_,rfl⟩
 rw [<- hz] at CW hz0 hnl HR
 have HZ:=hid hz
 clear hcs hcrs hz
 by_cases hzr : r < z
 ·have er : decide (r < z) = true := decide_eq_true hzr
  rw [if_pos hzr] at HR
  clear HN1 HN4 HN5
  go_enter Tryz.func46,Tryz.ntmps46
  go_wp2_with (first
   | (go_at_call 84;(with_reducible refine C.out.mono ?_);rintro e W1 ⟨a1,m1,k1,a2,m2,k2,rfl,g1,_,b1⟩;have HB1:=hid (Bt (Bt HB0.out b1) (Ba W1 (.cells #[.slice a1 m1 k1,.slice a2 m2 k2] 34)));have hx1:=GBox.new 34 W1 a1 a2 m1 k1 m2 k2;obtain ⟨d0,d1⟩:=hx1.c;have h5:=g1.nodes.len;have C2:=hid (CW.out a1 m1 k1 _ (g1.nodes.below (Ba W1 (.cells #[.slice a1 m1 k1,.slice a2 m2 k2] 34))) (by omega));clear b1 g1 hx1 h5)
   | (go_at_call 85;(with_reducible refine C2.out.mono ?_);rintro e W2 ⟨rfl,b2⟩;have HB2:=hid (Bt HB1.out b2);have C3:=hid (CR.out W2 HB2.out);clear b2)
   | (go_at_call 86;(with_reducible refine C3.out.mono ?_);rintro e W3 ⟨rfl,b3⟩;have HB3:=hid (Bt HB2.out b3);clear b3))
  go_ret2
  exact nofail.out 3 _ HB3.out HR.out
 have er : decide (r < z) = false:=decide_eq_false hzr
 rw [if_neg hzr] at HR
 have hok : fz N os nm cs:=⟨fun d hd=>(HN1.out d hd).2,fun d hd=>(HN1.out d hd).1.c,HN5.out,by have:=HZ.out;omega,bd2,by omega⟩
 have HOK:=hid hok
 have hobj:=hok.objs
 rw [hobj] at HR
 have CA : Hid (∀ (b1 : Nat) (a1 : Option Addr) (m1 c1 : Nat) (W : World),Below w.heap.size w W -> w.heap.size <= b1 -> b1 <= W.heap.size -> cs.length = m1 -> (∀ wx : World,W.heap.size <= wx.heap.size -> (∀ b,b1 <= b -> b < W.heap.size -> wx.heap[b]? = W.heap[b]?) -> NRow wx a1 m1 c1 cs) -> Calls Tryz.prog 87 #[.pointer (some ⟨gh,0,none⟩),.pointer (some ⟨gp,0,none⟩),.slice a1 m1 c1] W (zjs B (.pointer (some ⟨gh,0,none⟩)) (.pointer (some ⟨gp,0,none⟩)) N F W (putS nm (zc os) cs).ws (os ++ z7 (putS nm (zc os) cs).ws cs) (putS nm (zc os) cs).nm)):=fun b1 a1 m1 c1 W hb h1 h2 hl K =>
  ztc a1 m1 c1 cs W b1 (HH.out.on hb) HOK.out (fun d hd=>(HN1.out d hd).1) (fun b e=>by have:=(HH.out.ge b e).2;omega) h2 hl K (by omega) (Nat.le_trans HBB.out hb.size) hnm
 have HWL : Hid ((putS nm (zc os) cs).ws.length = cs.length):=by
  have:=fg (nm:=nm) (a:=zc os) (cs:=cs) cs.length (Nat.le_refl _)
  rw [List.take_length] at this
  exact this
 have HWU : Hid (∀ z∈(putS nm (zc os) cs).ws,U64 z):=by
  have:=zqg (nm:=nm) (a:=zc os) (cs:=cs) cs.length (Nat.le_refl _)
  rw [List.take_length] at this
  exact this
 have HRP : Hid (∀ k∈crs,0 <= k /\ k < cs.length):=zz (ym HN4.out).2
 obtain ⟨ws,hws⟩ : ∃ x,x = (putS nm (zc os) cs).ws:=⟨_,rfl⟩
 obtain ⟨nm2,hnm2⟩ : ∃ x,x = (putS nm (zc os) cs).nm:=⟨_,rfl⟩
 obtain ⟨os2,hos2⟩ : ∃ x,x = os ++ z7 ws cs:=⟨_,rfl⟩
 rw [<- hws] at CA HWL HWU HR
 rw [<- hnm2] at CA HR
 rw [<- hos2] at CA HR
 have HF : Hid (∀ b,F b -> b < w.heap.size):=fun b e=>(HH.out.ge b e).2
 unfold zjs at CA
 clear hok hobj hws hnm2 hos2 HN1 HN4 HN5 nofail HOK
 go_enter Tryz.func46,Tryz.ntmps46
 go_wp2_with (first
  | (go_at_call 84;(with_reducible refine C.out.mono ?_);rintro e W1 ⟨a1,m1,k1,a2,m2,k2,rfl,g1,gk1,b1⟩;have HBC:=hid (Ba W1 (.cells #[.slice a1 m1 k1,.slice a2 m2 k2] 34));have HB1:=hid (Bt (Bt HB0.out b1) HBC.out);have hx1:=GBox.new 34 W1 a1 a2 m1 k1 m2 k2;have HX1:=hid hx1;obtain ⟨d0,d1⟩:=hx1.c;have h5:=g1.nodes.len;have h6:=g1.roots.len;have h7:=g1.roots.fits;have h8:=g1.roots.most;have h9:=g1.nodes.fits;have h10:=g1.nodes.most;have C2:=hid (CW.out a1 m1 k1 _ (g1.nodes.below HBC.out) (by omega));have HGK:=hid gk1;have HSB:=hid b1.size;clear b1 g1 gk1 hx1)
  | (go_at_call 85;(with_reducible refine C2.out.mono ?_);rintro e W2 ⟨rfl,b2⟩;have HB2:=hid (Bt HB1.out b2);have HBL2:=hid b2;have C3:=hid (CR.out W2 HB2.out);clear b2)
  | (go_at_call 86;(with_reducible refine C3.out.mono ?_);rintro e W3 ⟨rfl,b3⟩;have HB3:=hid (Bt HB2.out b3);have HBL3:=hid (Bt HBL2.out b3);have hx3:=HX1.out.on HBL3.out;have HX3:=hid hx3;obtain ⟨e0,e1⟩:=hx3.c;have hs3 : Hid (W1.heap.size + 1 <= W3.heap.size):=(by have:=HBL3.out.size;rw [zb] at this;exact this);have hag : Hid (∀ b,b < W1.heap.size -> W3.heap[b]? = W1.heap[b]?):=(fun b hb=>(HBL3.out.block b (by rw [zb];omega)).trans (HBC.out.block b hb));have C4:=hid (CA.out (w.heap.size + 1) a1 m1 k1 W3 HB3.out (by omega) (by have:=HB3.out.size;have:=hs3.out;have:=HSB.out;rw [zb] at this;omega) h5 (fun wx hz1 hz2=>(HGK.out wx (by have:=hs3.out;omega) (fun b q1 q2=>by rw [zb] at q1;rw [hz2 b (by omega) (by have:=hs3.out;omega)];exact hag.out b q2)).nodes));clear b3 hx3)
  | (go_at_call 87;(with_reducible refine C4.out.mono ?_);rintro e W4 ⟨gw,rfl,q1,q2,F4,q3,q4,q5,q6⟩;have HGW:=hid q1;have HROW:=hid q2;have HP4:=hid q3;have HF4:=hid q4;have HO4:=hid q5;have HM4:=hid q6;have hx4:=(q6.block W1.heap.size (by have:=hs3.out;omega) (fun e=>by have:=HF.out _ e;have:=HB0.out.size;have:=HSB.out;rw [zb] at *;omega)).trans HX3.out;have HX4:=hid hx4;have y1 : W4.cell? ⟨W1.heap.size,1,none⟩ = some (.slice a2 m2 k2):=za hx4 1;clear q1 q2 q3 q4 q5 q6 hx4))
 unfold maxLen at h8 h10
 have HGI : Hid (IRow W4 a2 m2 k2 crs):=by
  refine (HGK.out W4 (by have:=hs3.out;have:=HM4.out.size;omega) (fun b q1 q2=>?_)).roots
  rw [zb] at q1
  rw [HM4.out.block b (by have:=hs3.out;omega) (fun e=>by have:=HF.out _ e;omega)]
  exact hag.out b q2
 have HWC : Hid (∀ W,Below W4.heap.size W4 W -> ∀ k,k < ws.length -> W.cell? ⟨gw,k,none⟩ = some (.int .u64 (ws.getD k 0))):=fun W b k hk=>by
  rw [b.cell (p:=⟨gw,k,none⟩) (Array.getElem?_eq_some_iff.1 HROW.out).1,za HROW.out,List.getElem?_toArray,zei hk]
 have hwl:=HWL.out
 have HBW4 : Hid (w.heap.size <= W4.heap.size):=Nat.le_trans HB3.out.size HM4.out.size
 obtain ⟨nw,hnw⟩ : ∃ n,n = ws.length:=⟨_,rfl⟩
 rw [<- hnw] at hwl HWC ⊢
 obtain ⟨f,hf⟩ : ∃ f : Int -> Int,f = fun i : Int=>ws.getD i.toNat 0:=⟨_,rfl⟩
 have HFE:=hid hf
 have HFU : Hid (∀ l : List Int,∀ z∈l.map f,U64 z):=fun l z hz=>by
  obtain ⟨i,_,rfl⟩:=List.mem_map.1 hz
  rw [HFE.out]
  show U64 (ws.getD i.toNat 0)
  by_cases hi : i.toNat < ws.length
  ·exact HWU.out _ (zq hi)
  ·rw [List.getD_eq_getElem?_getD,List.getElem?_eq_none (by omega)];exact ⟨by decide,by decide⟩
 rw [<- hf] at HR
 have H5:=hid h5
 have H6:=hid h6
 have HW2:=hid hwl
 have hm2 : m2 <= 100:=by omega
 clear e0 e1 d0 d1 hnw hf h5 h6 hwl hrr n3 hlen hrl
 go_loopw [11,13,35] (fun v _ i wr=>∃ q : Nat,q <= m2 /\ i = .int .i64 q /\ Hid (wr.ownsRow W4.heap.size 44 1 v q (uz ((crs.take q).map f)) /\ Below W4.heap.size W4 wr)) (fun _ _ i _=>m2 - (intOf i).toNat)
 case atStart=>exact ⟨0,Nat.zero_le _,rfl,World.ownsRow_nil _ _ _ _,Below.refl _ _⟩
 case round =>
  obtain ⟨q,hq,rfl,hI⟩:=hrel
  have HOQ:=hid hI.out.1
  have HBQ:=hid hI.out.2
  clear hI
  by_cases hlt : q < m2
  ·have h5 := H5.out
   have h6:=H6.out
   have hwl:=HW2.out
   obtain ⟨b,o,rfl,hlb,hc⟩:=(HGI.out.below HBQ.out).some (by omega)
   have c5:=hc q hlt
   have hin:=HRP.out _ (zq (l:=crs) (i:=q) (by omega))
   obtain ⟨m,hm⟩ : ∃ m : Nat,crs.getD q 0 = (m : Int):=⟨(crs.getD q 0).toNat,by omega⟩
   have HT:=hid (map_take f (l:=crs) (q:=q) (by omega))
   have HFM : Hid (f (m : Int) = ws.getD m 0):=by unfold Hid;rw [HFE.out];rfl
   rw [hm] at c5 hin HT
   rw [HFM.out] at HT
   have x1:=HWC.out wr HBQ.out m (by omega)
   obtain ⟨zx,hzx⟩ : ∃ z,z = ws.getD m 0:=⟨_,rfl⟩
   rw [<- hzx] at x1 HT
   have hzu : Hid (U64 zx):=by unfold Hid;rw [hzx];have:=HWL.out;exact HWU.out _ (zq (by omega))
   have HO1:=hid (je HOQ.out (Ba wr (.cells #[.int .u64 zx] 44)))
   have HU1:=hid (qp (zd wr #[.int .u64 zx] 44) hzu.out)
   have HBA:=hid (HBQ.out.trans ((Ba wr (.cells #[.int .u64 zx] 44)).mono HBQ.out.size))
   have HSA:=hid HBA.out.size
   have hmn : m < nw:=by omega
   clear hc hm hzx h5 h6 hwl hin
   go_wp2_with (at_builtin;refine appU rfl _ _ 23 rfl W4.heap.size 44 Tryz.underlying23 yn _ q ((crs.take q).map f) rfl HO1.out (some ⟨wr.heap.size,0,none⟩) 1 1 [zx] rfl HU1.out (by omega) HSA.out ?_;intro v2 w2 ho2 hg2)
   have HE : Hid (Below W4.heap.size W4 w2):=HBA.out.grown hg2 HSA.out (fun b hb=>(HO1.out.lt b hb).1)
   refine ⟨⟨q + 1,by omega,by go_num,?_,HE.out⟩,by simp [intOf] <;> omega⟩
   rw [HT.out];exact ho2
  ·obtain rfl : m2 = q := by omega
   have hoq:=HOQ.out
   rw [List.take_of_length_le (by rw [H6.out];exact Nat.le_refl _)] at hoq
   have hml : (crs.map f).length = m2:=by rw [List.length_map];exact H6.out
   rw [<- hml] at hoq
   obtain ⟨ao,cap,hv,hu⟩:=xy hoq (HFU.out crs)
   rw [hml] at hv hu
   subst hv
   have HU:=hid hu
   have HLT : Hid (∀ a,ao = some a -> W4.heap.size <= a.block):=fun a e=>(hoq.lt a.block (by rw [e];rfl)).1
   have HML:=hid hml
   clear hoq hu hml
   go_wp2_with fail
   go_ret2
   rw [HR.out]
   unfold zfh1
   simp only
   rw [HML.out]
   refine ⟨ao,cap,rfl,HU.out,F4,HP4.out.on HBQ.out,fun b e=>?_,((Mod.of_below F HB3.out).trans HM4.out (fun _ _ e=>e)).trans (Mod.of_below F HBQ.out) (fun _ _ e=>e),fun a e hf=>?_,fun a e=>?_⟩
   ·rcases HF4.out b e with e | e
    ·exact .inl e
    ·exact .inr (Nat.le_trans HB3.out.size e)
   ·have h1 := HLT.out a e
    have h2:=(HP4.out.ge _ hf).2
    omega
   ·have h1 := HLT.out a e
    have:=HBW4.out
    omega
theorem zbn1 (an ar : Option Addr) (nn cn nr cr : Nat) (ns : List Nd) (rs : List Int) (w : World) (h : PN B v vn N os nm F w) (G : GOk w an nn cn ar nr cr ns rs) (hn : nn <= 100) (hnr : nr <= 100) (hB : B <= w.heap.size) (hnm : nm.length <= 900000) (hT : vx w) :
  Calls Tryz.prog 46 #[v,vn,GVal an nn cn ar nr cr] w fun e w'=>∃ ao cap,e = .returned (.tuple #[.slice ao (putR N os nm ns rs).1.length cap,.int .i64 (putR N os nm ns rs).2.1]) /\ URow w' ao (putR N os nm ns rs).1.length cap (putR N os nm ns rs).1 /\
   ∃ F',PN B v vn N (putR N os nm ns rs).2.2.1 (putR N os nm ns rs).2.2.2 F' w' /\ (∀ b,F' b -> F b \/ w.heap.size <= b) /\ Mod F w w' /\ (∀ a,ao = some a -> ¬ F' a.block) /\ (∀ a,ao = some a -> w.heap.size <= a.block) :=
 zfi1 an ar nn cn nr cr ns rs w h G hn hnr hB hnm hT
end
end Go.Proofs.YticimejfjjmikaaGreatDoor
