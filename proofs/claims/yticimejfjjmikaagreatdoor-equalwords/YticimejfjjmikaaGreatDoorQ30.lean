import Derived.Test.YticimejfjjmikaaGreatDoorQD3
import Derived.Test.YticimejfjjmikaaGreatDoorST17
set_option linter.unusedVariables false
set_option linter.unusedSimpArgs false
set_option maxRecDepth 100000
namespace Go.Proofs.YticimejfjjmikaaGreatDoor
open Go.RowKit
theorem cntF_B (A : List Bool) : cntF A = cntB A:=by unfold cntF cntB;rw [List.countP_eq_length_filter]
theorem gd5_on {W wx wy : World} {p q r s t : Addr} {a0 a1 a2 a3 a4 : Value} (h : wx.cell? p = some a0 /\ wx.cell? q = some a1 /\ wx.cell? r = some a2 /\ wx.cell? s = some a3 /\ wx.cell? t = some a4 /\ Below W.heap.size W wx) (hb : Below wx.heap.size wx wy) : wy.cell? p = some a0 /\ wy.cell? q = some a1 /\ wy.cell? r = some a2 /\ wy.cell? s = some a3 /\ wy.cell? t = some a4 /\ Below W.heap.size W wy :=
 ⟨(hb.cell (p:=p) (cell_ltB h.1)).trans h.1,(hb.cell (p:=q) (cell_ltB h.2.1)).trans h.2.1,(hb.cell (p:=r) (cell_ltB h.2.2.1)).trans h.2.2.1,(hb.cell (p:=s) (cell_ltB h.2.2.2.1)).trans h.2.2.2.1,(hb.cell (p:=t) (cell_ltB h.2.2.2.2.1)).trans h.2.2.2.2.1,Bt h.2.2.2.2.2 hb⟩
theorem gd5_bel {W wx : World} {p q r s t : Addr} {a0 a1 a2 a3 a4 : Value} (h : wx.cell? p = some a0 /\ wx.cell? q = some a1 /\ wx.cell? r = some a2 /\ wx.cell? s = some a3 /\ wx.cell? t = some a4 /\ Below W.heap.size W wx) : Below W.heap.size W wx:=h.2.2.2.2.2
structure TS (os : List Ob) (ab : Nat) (w0 : World) (A : List Bool) (w : World) : Prop where
 row : BR ab A w
 bel : Below w0.heap.size w0 w
theorem TS.on {os : List Ob} {ab : Nat} {w0 w w' : World} {A : List Bool} (h : TS os ab w0 A w) (hb : Below w.heap.size w w') : TS os ab w0 A w':=⟨h.row.on hb,Bt h.bel hb⟩
theorem TS.set {os : List Ob} {ab : Nat} {w0 w : World} {A : List Bool} (h : TS os ab w0 A w) (p : Nat) (hg : w0.heap.size <= ab) : TS os ab w0 (A.set p true) (w.setCell ⟨ab,p,none⟩ (.bool true)):=⟨h.row.set p true,h.bel.setCell (p:=⟨ab,p,none⟩) hg _⟩
section
variable {B g : Nat} {N : Int} {vL : Value} {ls : List (Ob × Sl)}
set_option maxHeartbeats 32000000 in
theorem requal10_any (a b : Int) (ha : U64 a) (hb : U64 b) (t : Bool) (w : World) (h : RH B g N vL ls w) (hN : N <= 100000) (ht : t = true ↔ Alike (hpO (ls.map Prod.fst)) a b) : Calls Tryz.prog 23 #[.pointer (some ⟨g, 0, none⟩), .int .u64 a, .int .u64 b] w fun e w' => e = .returned (.bool t) /\ Below w.heap.size w w' := by
 have H:=hid h
 have HT:=hid ht
 have hlen : ls.length <= 100000:=by have:=len_le_used (ls.map Prod.fst);have:=h.room;rw [List.length_map] at *;omega
 have hused : ∀ n,n < ls.length -> ((ls.map Prod.fst).getD n default).f.length <= 100000:=fun n hn=>by
  have h1:=h.room
  have h2 : ((ls.map Prod.fst).getD n default).f.length <= usedL (ls.map Prod.fst):=f_le_used (by rw [List.length_map];exact hn)
  omega
 have HUS:=hid hused
 obtain ⟨gl0,cp0,rfl⟩:=vl_slice h
 have c1 : w.cell? ⟨g,1,none⟩ = some (.slice gl0 ls.length cp0):=blk_cell h.box 1
 have hSee : Hid (∀ n,n < ls.length -> _):=fun n hn=>h.sees hn
 have hlo : (ls.map Prod.fst).length = ls.length:=List.length_map _
 have hff : Hid (∀ x k,findM (ls.map Prod.fst) x = some k -> k < (ls.map Prod.fst).length):=fun x k e=>(findM_lt e).1
 obtain ⟨nsq,hnq⟩ : ∃ x,x = ls.length * ls.length:=⟨_,rfl⟩
 have hnb : nsq <= 10000000000:=by have:=Nat.mul_le_mul hlen hlen;omega
 have hww : IntKind.i64.wrap ((ls.length : Int) * (ls.length : Int)) = (nsq : Int):=by
  have h3 : (ls.length : Int) * (ls.length : Int) = (nsq : Int):=by rw [hnq];push_cast;rfl
  rw [h3,IntKind.wrap_i64];omega
 have hmk:=fun wx=>run_make_row' (P:=Tryz.prog) 117 4 (.bool false) 1 Tryz.underlying117 info_bool rfl .i64 .i64 nsq (by omega) (by omega) wx
 have CT : Hid (∀ (x y : Int) (A : List Bool) (ab : Nat) (wx : World),U64 x -> U64 y -> A.length = nsq -> TS (ls.map Prod.fst) ab w A wx -> Calls Tryz.prog 59 #[.pointer (some ⟨g,0,none⟩),.slice (some ⟨ab,0,none⟩) nsq nsq,.int .u64 x,.int .u64 y] wx fun e w'=>e = .returned (.bool (toldB (ls.map Prod.fst) A x y)) /\ Below wx.heap.size wx w'):=fun x y A ab wx hx hy hl hs=>rtold_any x y hx hy ab nsq A wx (H.out.on hs.bel) hN hs.row hl hnq
 have HS0 : Hid (TS (ls.map Prod.fst) w.heap.size w (List.replicate nsq false) (w.alloc (.cells (madeCells #[.bool false] nsq) 4))):=⟨br_new,Ba _ _⟩
 have HNQ:=hid hnq
 obtain ⟨os,hos⟩ : ∃ os,os = ls.map Prod.fst:=⟨_,rfl⟩
 rw [<- hos] at HS0 CT hlo hff HT HUS
 obtain ⟨nn,hnn⟩ : ∃ n,n = ls.length:=⟨_,rfl⟩
 rw [<- hos,<- hnn] at hSee
 rw [<- hnn] at hlo hlen hww HNQ HUS c1
 have HPR : Hid (∀ i k,i < nn -> k < nn -> prI os i k = i * nn + k /\ i * nn + k < nsq):=fun i k hi hk=>by
  unfold prI
  rw [hlo]
  refine ⟨rfl,?_⟩
  rw [HNQ.out]
  exact (pr_wrap hlen hi hk).2.2
 have HLQ : Hid (os.length * os.length = nsq):=by unfold Hid;rw [hlo,HNQ.out]
 have HPW : Hid (∀ i k,i < nn -> k < nn -> _):=fun i k hi hk=>pr_wrap hlen hi hk
 clear h ht hused hos hnn hnq H
 go_enter Tryz.func23,Tryz.ntmps23
 go_wp2_with fail
 clear c1 hmk hww
 go_loopw [9] (fun m wr=>∃ b : Bool,m = .bool b /\ Hid (∃ A,TS os w.heap.size w A wr /\ A.length = nsq /\ Snd os A /\ (b = false -> RQ os A A false os.length 0 0))) (fun m wr=>2 * cntW w.heap.size wr + boolN m)
 case atStart=>exact ⟨true,rfl,_,HS0.out,by simp,snd_start _,fun e=>by cases e⟩
 case round =>
  obtain ⟨b0,rfl,hI⟩:=hrel
  obtain ⟨A0,hS,hL,hD,hQ⟩:=hI.out
  have HS:=hid hS
  have HL:=hid hL
  have HD:=hid hD
  have HQ:=hid hQ
  clear hI hS hL hD hQ HS0
  cases b0
  ·have C9 := hid (CT.out a b A0 w.heap.size wr ha hb HL.out HS.out)
   have hR:=(HQ.out rfl).done hff.out a b
   have e9 : toldB os A0 a b = !t:=by
    cases t <;> cases e : toldB os A0 a b <;> rw [e] at hR <;> first | rfl | (exfalso;revert hR;rw [<- HT.out];simp)
   rw [e9] at C9
   clear e9 hR HQ
   go_wp2_with (go_at_call 59;(with_reducible refine C9.out.mono ?_);rintro e W9 ⟨rfl,b9⟩)
   go_ret
   exact ⟨by simp,Bt HS.out.bel b9⟩
  ·have hcnt := HS.out.row.cnt
   obtain ⟨c0,hc0⟩ : ∃ c,c = cntB A0:=⟨_,rfl⟩
   rw [<- hc0] at hcnt
   rw [hcnt]
   have HC0:=hid hc0
   have HR0 : Hid (RQ os A0 A0 false 0 0 0):=RQ.start (HL.out.trans HLQ.out.symm) HD.out
   clear hcnt hc0 HQ
   go_wp2_with fail
   go_loopw [9,10] (fun m v wr=>∃ (b : Bool) (i : Nat),m = .bool b /\ v = .int .i64 i /\ i <= nn /\ Hid (∃ A,TS os w.heap.size w A wr /\ RQ os A0 A b i 0 0)) (fun _ v _=>nn - (intOf v).toNat)
   case atStart=>exact ⟨false,0,rfl,rfl,Nat.zero_le _,A0,HS.out,HR0.out⟩
   case round =>
    obtain ⟨b1,i,rfl,rfl,hi,hI⟩:=hrel
    clear HS HL HD HR0
    by_cases hli : i < nn
    ·have HI1 := hid hI.out
     clear hI
     go_wp2_with fail
     go_loopw [9,11] (fun m v wr=>∃ (b : Bool) (k : Nat),m = .bool b /\ v = .int .i64 k /\ k <= nn /\ Hid (∃ A,TS os w.heap.size w A wr /\ RQ os A0 A b i k 0)) (fun _ v _=>nn - (intOf v).toNat)
     case atStart=>exact ⟨b1,0,rfl,rfl,Nat.zero_le _,HI1.out⟩
     case round =>
      obtain ⟨b2,k,rfl,rfl,hk,hI⟩:=hrel
      clear HI1
      obtain ⟨A,hS,hR⟩:=hI.out
      have HS:=hid hS
      have HR:=hid hR
      clear hI hS hR
      by_cases hlk : k < nn
      ·obtain ⟨gl, cap, hv, hc1, hc2, ia, ic, HI_old⟩ := hSee.out i hli
       obtain ⟨gl',cap',hv',_,_,ka,kc,HK_old⟩:=hSee.out k hlk
       cases hv
       cases hv'
       unfold maxLen at hc2
       have HI:=hid HI_old
       have HK:=hid HK_old
       clear HI_old HK_old
       have hui:=HUS.out i hli
       have huk:=HUS.out k hlk
       obtain ⟨ti,hti⟩ : ∃ x,x = os.getD i default:=⟨_,rfl⟩
       obtain ⟨tk,htk⟩ : ∃ x,x = os.getD k default:=⟨_,rfl⟩
       have HCB : Hid (candB os i k = (decide (ti.kind = tk.kind) && (decide (1 <= ti.kind /\ ti.kind <= 4) && decide (ti.f.length = tk.f.length)))):=by unfold Hid candB;rw [<- hti,<- htk]
       rw [<- hti] at HI hui
       rw [<- htk] at HK huk
       have HTI:=hid hti
       have HTK:=hid htk
       obtain ⟨kdi,fi⟩:=ti
       obtain ⟨kdk,fk⟩:=tk
       simp only at HI HK hui huk HCB
       obtain ⟨x0,x1,x2,_⟩:=HI.out wr HS.out.bel
       obtain ⟨y0,y1,y2,_⟩:=HK.out wr HS.out.bel
       clear y0
       have i0 : (0 : Int) <= (i : Int):=by omega
       have k0 : (0 : Int) <= (k : Int):=by omega
       have i1 : (i : Int) < (nn : Int):=by omega
       have k1 : (k : Int) < (nn : Int):=by omega
       obtain ⟨w1,w2,_⟩:=HPW.out i k hli hlk
       obtain ⟨hp1,hp2⟩:=HPR.out i k hli hlk
       obtain ⟨m1,hm1⟩ : ∃ m,m = i * nn:=⟨_,rfl⟩
       rw [<- hm1] at w1 w2 hp1 hp2
       obtain ⟨p,hp⟩ : ∃ m,m = m1 + k:=⟨_,rfl⟩
       rw [<- hp] at w2 hp1 hp2
       have HP:=hid hp1
       have p0 : (0 : Int) <= (p : Int):=by omega
       have p1 : (p : Int) < (nsq : Int):=by omega
       have hAl : A.length = nsq:=HR.out.len.trans HLQ.out
       have z0:=HS.out.row.get (i:=p) (by omega)
       obtain ⟨ap,hap⟩ : ∃ x,x = A.getD p false:=⟨_,rfl⟩
       rw [<- hap] at z0
       have HAP:=hid hap
       have HAL:=hid hAl
       clear hm1 hp hp1 hti htk hap hAl
       obtain ⟨nf,hnf⟩ : ∃ n,n = fi.length:=⟨_,rfl⟩
       obtain ⟨nk,hnk⟩ : ∃ n,n = fk.length:=⟨_,rfl⟩
       rw [<- hnf] at x2 hui HCB
       rw [<- hnk] at y2 huk HCB
       have CP : Hid (∀ wx,Calls Tryz.prog 58 #[.int .i64 kdi] wx fun e w'=>e = .returned (.bool (decide (1 <= kdi /\ kdi <= 4))) /\ w' = wx):=fun wx=>rparts_any kdi wx
       have HNF:=hid hnf
       have HNK:=hid hnk
       clear hnf hnk
       cases ap
       ·by_cases d1 : kdi = kdk
        ·have d1' : (kdi == kdk) = true := by simp [d1]
         have d1n : (kdi != kdk) = false:=by simp [d1]
         rw [decide_eq_true d1] at HCB
         obtain ⟨pb,hpb⟩ : ∃ x,x = decide (1 <= kdi /\ kdi <= 4):=⟨_,rfl⟩
         rw [<- hpb] at CP HCB
         clear hpb d1
         cases pb
         ·have HC9 : Hid (candB os i k = false) := HCB.out
          go_wp2_with fail
          go_quiet ((go_at_call 58;exact Calls.quiet_of_same (CP.out _)))
          go_wp2_with fail
          exact ⟨⟨b2,k + 1,rfl,by go_num,by omega,A,HS.out.on (Bd wr _),HR.out.skip (.inr (.inl HC9.out))⟩,by simp [intOf] <;> omega⟩
         ·by_cases d2 : nf = nk
          ·have d2' : ((nf : Int) == (nk : Int)) = true := by simp [d2]
           have d2n : ((nf : Int) != (nk : Int)) = false:=by simp [d2]
           have HC9 : Hid (candB os i k = true):=by unfold Hid;rw [HCB.out,decide_eq_true d2];rfl
           have HD2:=hid d2
           clear d2
           go_wp2_with fail
           go_quiet ((go_at_call 58;exact Calls.quiet_of_same (CP.out _)))
           go_wp2_with fail
           clear x1 y1 d1' d1n d2' d2n z0
           go_loopw [9,12] (fun m v wr=>∃ (b : Bool) (j : Nat),m = .bool b /\ v = .int .i64 j /\ j <= nf /\ Hid (∃ A,TS os w.heap.size w A wr /\ RQ os A0 A b i k j /\ (b = true \/ A.getD p false = false))) (fun _ v _=>nf - (intOf v).toNat)
           case atStart=>exact ⟨b2,0,rfl,rfl,Nat.zero_le _,A,HS.out.on (Bd wr _),HR.out,.inr HAP.out.symm⟩
           case round =>
            obtain ⟨b3,j,rfl,rfl,hj,hI⟩:=hrel
            clear HS HR HAL HAP x0 x2 y2
            obtain ⟨A3,hS,hR,hM⟩:=hI.out
            have HS:=hid hS
            have HR:=hid hR
            have HM:=hid hM
            clear hI hS hR hM
            obtain ⟨x0,x1,x2,xU⟩:=HI.out wr HS.out.bel
            obtain ⟨y0,y1,y2,yU⟩:=HK.out wr HS.out.bel
            rw [<- HNF.out] at x2 xU
            rw [<- HNK.out] at y2 yU
            clear x1 y1 y0
            by_cases hlj : j < nf
            ·have hljk : j < nk := by have := HD2.out; omega
             have hxf:=xU.fits
             have hxm:=xU.most
             have hyf:=yU.fits
             have hym:=yU.most
             unfold maxLen at hxm hym
             obtain ⟨ib,io,rfl,_,hci⟩:=xU.some (by omega)
             obtain ⟨kb,ko,rfl,_,hck⟩:=yU.some (by omega)
             have z0:=hci j hlj
             have z1:=hck j hljk
             have ux:=xU.bd _ (getD_in_f (l:=fi) (i:=j) (by rw [<- HNF.out];exact hlj))
             have uy:=yU.bd _ (getD_in_f (l:=fk) (i:=j) (by rw [<- HNK.out];exact hljk))
             obtain ⟨x,hx⟩ : ∃ x,x = fi.getD j 0:=⟨_,rfl⟩
             obtain ⟨y,hy⟩ : ∃ x,x = fk.getD j 0:=⟨_,rfl⟩
             rw [<- hx] at z0 ux
             rw [<- hy] at z1 uy
             have HA3 : Hid (A3.length = nsq):=HR.out.len.trans HLQ.out
             have HTS : Hid (∀ wx,Below wr.heap.size wr wx -> TS os w.heap.size w A3 wx):=fun wx hb=>HS.out.on hb
             have CT8:=CT.out x y A3 w.heap.size
             have CT9 : Hid (∀ wx,Below wr.heap.size wr wx -> Calls Tryz.prog 59 #[.pointer (some ⟨g,0,none⟩),.slice (some ⟨w.heap.size,0,none⟩) nsq nsq,.int .u64 x,.int .u64 y] wx fun e w'=>e = .returned (.bool (toldB os A3 x y)) /\ Below wx.heap.size wx w'):=fun wx hb=>CT8 wx ux uy HA3.out (HTS.out wx hb)
             clear CT8
             obtain ⟨tl,htl⟩ : ∃ t,t = toldB os A3 x y:=⟨_,rfl⟩
             have HTL : Hid (toldB os A3 ((os.getD i default).f.getD j 0) ((os.getD k default).f.getD j 0) = tl):=by
              unfold Hid
              rw [<- HTI.out,<- HTK.out,htl,hx,hy]
             rw [<- htl] at CT9
             have HS0 : Hid (wr.cell? ⟨g,1,none⟩ = some (.slice (some ⟨gl,0,none⟩) nn cp0) /\ wr.cell? ⟨gl,i * 3 + 2,none⟩ = some (.slice (some ⟨ib,io,none⟩) nf ic) /\ wr.cell? ⟨gl,k * 3 + 2,none⟩ = some (.slice (some ⟨kb,ko,none⟩) nk kc) /\ wr.cell? ⟨ib,io + j,none⟩ = some (.int .u64 x) /\ wr.cell? ⟨kb,ko + j,none⟩ = some (.int .u64 y) /\ Below wr.heap.size wr wr):=⟨x0,x2,y2,z0,z1,Below.refl _ _⟩
             have j0 : (0 : Int) <= (j : Int):=by omega
             have j1 : (j : Int) < (nf : Int):=by omega
             have j2 : (j : Int) < (nk : Int):=by omega
             clear hci hck hx hy htl ux uy xU yU z0 z1 y2
             cases tl
             ·go_wp2_with fail
              go_region_held3 (fun wx=>wx.cell? ⟨g,1,none⟩ = some (.slice (some ⟨gl,0,none⟩) nn cp0) /\ wx.cell? ⟨gl,i * 3 + 2,none⟩ = some (.slice (some ⟨ib,io,none⟩) nf ic) /\ wx.cell? ⟨gl,k * 3 + 2,none⟩ = some (.slice (some ⟨kb,ko,none⟩) nk kc) /\ wx.cell? ⟨ib,io + j,none⟩ = some (.int .u64 x) /\ wx.cell? ⟨kb,ko + j,none⟩ = some (.int .u64 y) /\ Below wr.heap.size wr wx)
               (first | exact gd5_on HS0.out (Bd wr 1) | exact gd5_on (by assumption) (by assumption))
               (first | (go_at_call 59;with_reducible refine (CT9.out _ ?_).mono ?_;(exact gd5_bel (by assumption));rintro e wc ⟨rfl,bc⟩))
              have HBC : Hid (Below wr.heap.size wr wc):=gd5_bel (p:=⟨g,1,none⟩) (q:=⟨gl,i * 3 + 2,none⟩) (r:=⟨gl,k * 3 + 2,none⟩) (s:=⟨ib,io + j,none⟩) (t:=⟨kb,ko + j,none⟩) (by assumption)
              rename_i hHeld
              clear hHeld
              go_wp2_with fail
              exact ⟨⟨b3,j + 1,rfl,by go_num,by omega,A3,HS.out.on HBC.out,HR.out.stay HTL.out,HM.out⟩,by simp [intOf] <;> omega⟩
             ·go_wp2_with fail
              go_region_held3 (fun wx=>wx.cell? ⟨g,1,none⟩ = some (.slice (some ⟨gl,0,none⟩) nn cp0) /\ wx.cell? ⟨gl,i * 3 + 2,none⟩ = some (.slice (some ⟨ib,io,none⟩) nf ic) /\ wx.cell? ⟨gl,k * 3 + 2,none⟩ = some (.slice (some ⟨kb,ko,none⟩) nk kc) /\ wx.cell? ⟨ib,io + j,none⟩ = some (.int .u64 x) /\ wx.cell? ⟨kb,ko + j,none⟩ = some (.int .u64 y) /\ Below wr.heap.size wr wx)
               (first | exact gd5_on HS0.out (Bd wr 1) | exact gd5_on (by assumption) (by assumption))
               (first | (go_at_call 59;with_reducible refine (CT9.out _ ?_).mono ?_;(exact gd5_bel (by assumption));rintro e wc ⟨rfl,bc⟩))
              have HBC : Hid (Below wr.heap.size wr wc):=gd5_bel (p:=⟨g,1,none⟩) (q:=⟨gl,i * 3 + 2,none⟩) (r:=⟨gl,k * 3 + 2,none⟩) (s:=⟨ib,io + j,none⟩) (t:=⟨kb,ko + j,none⟩) (by assumption)
              rename_i hHeld
              clear hHeld
              have HS3:=hid (HS.out.on HBC.out)
              have f3:=blk_free HS3.out.row p
              have g3:=HS3.out.row.get (i:=p) (by rw [HR.out.len,HLQ.out];exact hp2)
              have HTE:=hid (HR.out.tell (by rw [hlo];exact hli) (by rw [hlo];exact hlk) hff.out HC9.out (by rw [<- HTI.out];show j < fi.length;rw [<- HNF.out];exact hlj) (by rw [HP.out];exact HM.out) HTL.out)
              rw [HP.out] at HTE
              go_wp2_with fail
              exact ⟨⟨true,j + 1,rfl,by go_num,by omega,_,HS3.out.set p (Nat.le_refl _),HTE.out,.inl rfl⟩,by simp [intOf] <;> omega⟩
            ·obtain rfl : j = nf := by omega
             have HR' : Hid (RQ os A0 A3 b3 i (k + 1) 0):=by
              have h9:=HR.out
              have e9 : j = (os.getD i default).f.length:=by rw [<- HTI.out];exact HNF.out
              rw [e9] at h9
              exact h9.next
             go_wp2_with fail
             exact ⟨⟨b3,k + 1,rfl,by go_num,by omega,A3,HS.out,HR'.out⟩,by simp [intOf] <;> omega⟩
          ·have d2' : ((nf : Int) == (nk : Int)) = false := by simp; omega
           have d2n : ((nf : Int) != (nk : Int)) = true:=by simp;omega
           have HC9 : Hid (candB os i k = false):=by unfold Hid;rw [HCB.out,decide_eq_false d2];rfl
           clear d2
           go_wp2_with fail
           go_quiet ((go_at_call 58;exact Calls.quiet_of_same (CP.out _)))
           go_wp2_with fail
           exact ⟨⟨b2,k + 1,rfl,by go_num,by omega,A,HS.out.on (Bd wr _),HR.out.skip (.inr (.inl HC9.out))⟩,by simp [intOf] <;> omega⟩
        ·have d1' : (kdi == kdk) = false := by simp [d1]
         have d1n : (kdi != kdk) = true:=by simp [d1]
         have HC9 : Hid (candB os i k = false):=by unfold Hid;rw [HCB.out,decide_eq_false d1];rfl
         go_wp2_with fail
         go_quiet ((go_at_call 58;exact Calls.quiet_of_same (CP.out _)))
         go_wp2_with fail
         exact ⟨⟨b2,k + 1,rfl,by go_num,by omega,A,HS.out.on (Bd wr _),HR.out.skip (.inr (.inl HC9.out))⟩,by simp [intOf] <;> omega⟩
       ·go_wp2_with fail
        go_quiet ((go_at_call 58;exact Calls.quiet_of_same (CP.out _)))
        go_wp2_with fail
        exact ⟨⟨b2,k + 1,rfl,by go_num,by omega,A,HS.out.on (Bd wr _),HR.out.skip (.inl (by rw [HP.out];exact HAP.out.symm))⟩,by simp [intOf] <;> omega⟩
      ·obtain rfl : k = nn := by omega
       have HR' : Hid (RQ os A0 A b2 (i + 1) 0 0):=by
        have:=HR.out
        rw [<- hlo] at this
        exact this.row
       go_wp2_with fail
       exact ⟨⟨b2,i + 1,rfl,by go_num,by omega,A,HS.out,HR'.out⟩,by simp [intOf] <;> omega⟩
    ·obtain rfl : i = nn := by omega
     obtain ⟨A,hS,hR⟩:=hI.out
     have HS:=hid hS
     have HR:=hid hR
     clear hI hS hR
     go_wp2_with fail
     have hR:=HR.out
     rw [<- hlo] at hR
     refine ⟨⟨b1,rfl,A,HS.out,hR.len.trans HLQ.out,hR.snd,fun e=>?_⟩,?_⟩
     ·subst e
      have e2:=(hR.no rfl).1
      rw [<- e2] at hR
      exact hR
     ·rw [HS.out.row.cnt]
      have h1:=cntF_B A
      have h2:=cntF_B A0
      have h3:=HC0.out
      cases b1
      ·rw [(hR.no rfl).1,<- HC0.out];simp [boolN]
      ·have:=hR.yes rfl;simp [boolN];omega
end
structure EqD (v : Value) (os : List Ob) (W0 : World) : Prop where
 q : ∀ x y,U64 x -> U64 y -> ∀ W,Bel W0 W -> Calls Tryz.prog 21 #[v,.int .u64 x,.int .u64 y] W fun e w'=>e = .returned (.bool (eqvB os x y)) /\ Bel W0 w'
 a : ∀ x y,U64 x -> U64 y -> ∀ W,Bel W0 W -> Calls Tryz.prog 23 #[v,.int .u64 x,.int .u64 y] W fun e w'=>e = .returned (.bool (alikeB os x y)) /\ Bel W0 w'
theorem EqD.of {B g : Nat} {N : Int} {vL : Value} {ls : List (Ob × Sl)} {os : List Ob} {W0 : World} (h : RH B g N vL ls W0) (hN : N <= 100000) (ho : ls.map Prod.fst = os) : EqD (.pointer (some ⟨g,0,none⟩)) os W0:=by
 subst ho
 exact ⟨fun x y hx hy W hb=>(reqv_any x y hx hy W (h.on hb) hN).mono (fun e w' ⟨h1,h2⟩=>⟨h1,Bt hb h2⟩),fun x y hx hy W hb=>(requal10_any x y hx hy (alikeB _ x y) W (h.on hb) hN (alikeB_iff _ x y)).mono (fun e w' ⟨h1,h2⟩=>⟨h1,Bt hb h2⟩)⟩
set_option maxHeartbeats 32000000 in
theorem equalWords_walk (an ar : Option Addr) (nn cn nr cr : Nat) (ns : List Nd) (rs : List Int) (i0 i1 : Int) (w : World) (G : GIs w an nn cn ar nr cr ns rs) (h0 : Z64 i0) (h1 : Z64 i1) (hT : TabsS w) :
  Calls Tryz.prog 4 #[GVal an nn cn ar nr cr,.int .i64 i0,.int .i64 i1] w fun e w'=>e = .returned (.bool true) /\ Below w.heap.size w w':=by
 have HG:=hid G
 have HT:=hid hT
 have CA : Hid (∀ wx,Bel w wx -> Calls Tryz.prog 18 #[] wx fun e w'=>e = .returned (.bool true) /\ Bel w w'):=fun wx hb=>(eawake_any wx (hT.below hb)).mono (fun e w' ⟨h1,h2⟩=>⟨h1,Bt hb h2⟩)
 have b0:=Ba w (.cells #[.slice an nn cn,.slice ar nr cr] 34)
 have hx0:=blk_new w #[.slice an nn cn,.slice ar nr cr] 34
 obtain ⟨W0,hW0⟩ : ∃ W,W = w.alloc (.cells #[.slice an nn cn,.slice ar nr cr] 34):=⟨_,rfl⟩
 rw [<- hW0] at b0 hx0
 have hs0 : W0.heap.size = w.heap.size + 1:=by rw [hW0,size_alloc]
 have HB0:=hid b0
 have HX : Hid (∀ W,Below W0.heap.size W0 W -> W.cell? ⟨w.heap.size,0,none⟩ = some (.slice an nn cn) /\ W.cell? ⟨w.heap.size,1,none⟩ = some (.slice ar nr cr)):=fun W hb=>by
  have k0:=(hb.block w.heap.size (by omega)).trans hx0
  exact ⟨blk_cell k0 0,blk_cell k0 1⟩
 have CS:=hid (esmall_any an ar nn cn nr cr ns rs W0 (G.below b0))
 have hln:=G.nodes.len
 obtain ⟨c0,c1⟩:=HX.out W0 (Below.refl _ _)
 have HW0:=hid hW0
 obtain ⟨fb,hfb⟩ : ∃ b,b = (fewB ns rs 30 && decide (0 < nn)):=⟨_,rfl⟩
 rw [<- hfb] at CS
 unfold GVal at CS
 unfold GVal
 rw [hW0] at c0 c1
 clear G hT b0 hx0 hs0
 cases fb
 ·clear hW0 hfb
  go_enter Tryz.func4,Tryz.ntmps4
  go_wp2_with (go_at_call 16;rw [<- HW0.out];refine CS.out.mono ?_;rintro e W1 ⟨rfl,b1⟩;have HB1:=hid (Bt HB0.out b1);clear b1)
  go_ret
  exact ⟨rfl,HB1.out⟩
 have hfw : fewB ns rs 30 = true /\ 0 < nn:=by
  have:=hfb.symm
  rw [Bool.and_eq_true,decide_eq_true_eq] at this
  exact this
 obtain ⟨f1,f2,f3,f4⟩:=few_parts hfw.1
 have CL : Hid (∀ W,Below W0.heap.size W0 W -> Calls Tryz.prog 17 #[.agg #[.slice an nn cn,.slice ar nr cr]] W (LaidP ns W)):=fun W hb=>laid_any an ar nn cn nr cr ns rs W ((HG.out.below HB0.out).below hb) f3 f4 (by omega) ((HT.out.below HB0.out).below hb)
 have HTX:=hid (laid_text f3 f4 (by omega))
 have hlr : (laidR ns).1.length <= 1000000:=by
  rcases laid_len f3 f4 (by omega) with e | e
  ·rw [e];simp
  ·omega
 unfold LaidP at CL
 obtain ⟨r,hr⟩ : ∃ r,r = laidR ns:=⟨_,rfl⟩
 rw [<- hr] at CL HTX hlr
 obtain ⟨nw,hnw⟩ : ∃ n,n = r.1.length:=⟨_,rfl⟩
 rw [<- hnw] at CL hlr
 have HNW:=hid hnw
 clear hr hnw hfb hfw f1 f2 f3 f4 hW0 HG
 by_cases hz : nw = 0
 ·subst hz
  go_enter Tryz.func4,Tryz.ntmps4
  go_wp2_with (first
   | (go_at_call 16;rw [<- HW0.out];refine CS.out.mono ?_;rintro e W1 ⟨rfl,b1⟩;have C2:=hid (CL.out W1 b1);obtain ⟨d0,d1⟩:=HX.out W1 b1;have HB1:=hid b1;clear b1)
   | (go_at_call 17;refine C2.out.mono ?_;rintro e W2 ⟨v,g,ao,cap,F,vL,ls,B',rfl,u2,h2,r2,_,_,_,b2⟩;have C3:=hid (CA.out W2 (Bt HB0.out (Bt HB1.out b2)));clear u2 h2 r2 b2)
   | (go_at_call 18;refine C3.out.mono ?_;rintro e W3 ⟨rfl,b3⟩;have HB3:=hid b3;clear b3))
  go_ret
  exact ⟨rfl,HB3.out⟩
 have hz0 : ((nw : Int) == 0) = false:=by simp;omega
 go_enter Tryz.func4,Tryz.ntmps4
 go_wp2_with (first
  | (go_at_call 16;rw [<- HW0.out];refine CS.out.mono ?_;rintro e W1 ⟨rfl,b1⟩;have C2:=hid (CL.out W1 b1);obtain ⟨d0,d1⟩:=HX.out W1 b1;have HB1:=hid b1;clear b1)
  | (go_at_call 17;refine C2.out.mono ?_;rintro e W2 ⟨v,g,ao,cap,F,vL,ls,B',rfl,u2,h2,r2,hls,_,_,b2⟩;have HU2:=hid u2;have HH2:=hid h2;have HR2:=hid r2;have HLS:=hid hls;have HB2:=hid (Bt HB1.out b2);obtain ⟨gh,rfl⟩:=HH2.out.ph.ptr;have hw2 : Bel w W2:=Bt HB0.out HB2.out;have HTW : Hid (TabsS W2):=(HT.out.below HB0.out).below HB2.out;have hf:=HU2.out.fits;have hm:=HU2.out.most;have CT : Hid (∀ i,Z64 i -> ∀ wx,Bel W2 wx -> Calls Tryz.prog 19 #[.slice ao nw cap,.int .i64 i] wx fun e w'=>e = .returned (.int .u64 (atW r.1 i)) /\ Bel W2 w'):=(fun i hi wx hb=>(eat_any ao nw cap r.1 i hi wx (HU2.out.on hb) (by omega) hlr).mono (fun e w' ⟨h1,h2⟩=>⟨h1,by rw [h2];exact hb⟩));unfold maxLen at hm;clear u2 h2 r2 b2 hls))
 have hU:=HU2.out.bd
 have ux : U64 (atW r.1 i0):=hU _ (atW_in (by rw [<- HNW.out];omega) i0)
 have uy : U64 (atW r.1 i1):=hU _ (atW_in (by rw [<- HNW.out];omega) i1)
 have T0:=hid (CT.out i0 h0)
 have T1:=hid (CT.out i1 h1)
 obtain ⟨x,hx⟩ : ∃ x,x = atW r.1 i0:=⟨_,rfl⟩
 obtain ⟨y,hy⟩ : ∃ x,x = atW r.1 i1:=⟨_,rfl⟩
 rw [<- hx] at T0 ux
 rw [<- hy] at T1 uy
 have EC:=hid (EqC.of HH2.out HTW.out HTX.out)
 have ED:=hid (EqD.of HR2.out (by omega) HLS.out)
 have Qxy:=hid (EC.out.q x y ux uy)
 have Axy:=hid (EC.out.a x y ux uy)
 have Rxy:=hid (ED.out.q x y ux uy)
 have Sxy:=hid (ED.out.a x y ux uy)
 have HBW : Hid (∀ W,Bel W2 W -> Bel w W):=fun W hb=>Bt hw2 hb
 have CW : Hid (∀ W,Bel W2 W -> Calls Tryz.prog 18 #[] W fun e w'=>e = .returned (.bool true) /\ Bel w w'):=fun W hb=>CA.out W (HBW.out W hb)
 obtain ⟨p1,hp1⟩ : ∃ b,b = eqvB r.2.2.1 x y:=⟨_,rfl⟩
 obtain ⟨p2,hp2⟩ : ∃ b,b = alikeB r.2.2.1 x y:=⟨_,rfl⟩
 rw [<- hp1] at Qxy Rxy
 rw [<- hp2] at Axy Sxy
 have b22 : Bel W2 W2:=Below.refl _ _
 clear hp1 hp2 EC ED ux uy HX HT HTX CA HU2 HH2 HR2 HLS CT hU hx hy CL C2 CS d0 d1 c0 c1 hw2
 cases p1 <;> cases p2
 all_goals
  go_wp2_with (first
   | (go_at_call 19;(first | (with_reducible refine (T0.out _ (by assumption)).mono ?_) | (with_reducible refine (T1.out _ (by assumption)).mono ?_));rintro e W4 ⟨rfl,b4⟩)
   | (go_at_call 20;(with_reducible refine (Qxy.out _ (by assumption)).mono ?_);rintro e W5 ⟨rfl,b5⟩)
   | (go_at_call 22;(with_reducible refine (Axy.out _ (by assumption)).mono ?_);rintro e W5 ⟨rfl,b5⟩)
   | (go_at_call 21;(with_reducible refine (Rxy.out _ (by assumption)).mono ?_);rintro e W5 ⟨rfl,b5⟩)
   | (go_at_call 23;(with_reducible refine (Sxy.out _ (by assumption)).mono ?_);rintro e W5 ⟨rfl,b5⟩)
   | (go_at_call 18;(with_reducible refine (CW.out _ (by assumption)).mono ?_);rintro e W6 ⟨rfl,b6⟩))
  go_ret
  exact ⟨rfl,b6⟩
end Go.Proofs.YticimejfjjmikaaGreatDoor
