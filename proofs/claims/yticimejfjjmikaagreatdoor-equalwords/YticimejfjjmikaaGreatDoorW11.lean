import Derived.Test.YticimejfjjmikaaGreatDoorW5
import Derived.Deep.RegionHeld3
import Derived.Test.YticimejfjjmikaaGreatDoorX0
import Derived.Lib.Strings
set_option linter.unusedVariables false
set_option linter.unusedSimpArgs false
namespace Go.Proofs.YticimejfjjmikaaGreatDoor
open Go.RowKit
def cmpR (neg neg' : Bool) (x y : Nat) : Int:=if neg = neg' then (if neg then - cmpN x y else cmpN x y) else (if neg then -1 else 1)
theorem cmpR_ne {neg neg' : Bool} (x y : Nat) (h : neg ≠ neg') : cmpR neg neg' x y = if neg then -1 else 1:=by simp [cmpR,h]
theorem cmpR_eq (neg : Bool) (x y : Nat) : cmpR neg neg x y = if neg then - cmpN x y else cmpN x y:=by simp [cmpR]
theorem cmpN_bd (x y : Nat) : -1 <= cmpN x y /\ cmpN x y <= 1:=by unfold cmpN;split <;>(try split) <;> omega
theorem cell_lt {w : World} {b i : Nat} {v : Value} (h : w.cell? ⟨b,i,none⟩ = some v) : b < w.heap.size:=World.block_lt_of_cell? w ⟨b,i,none⟩ h
theorem two_on {W wx wy : World} {p q : Nat} {neg neg' : Bool} {ao ao' : Option Addr} {n cap n' cap' : Nat}
  (h : wx.cell? ⟨p,0,none⟩ = some (.bool neg) /\ wx.cell? ⟨p,1,none⟩ = some (.slice ao n cap) /\ wx.cell? ⟨q,0,none⟩ = some (.bool neg') /\ wx.cell? ⟨q,1,none⟩ = some (.slice ao' n' cap') /\ Below W.heap.size W wx) (hb : Below wx.heap.size wx wy) :
  wy.cell? ⟨p,0,none⟩ = some (.bool neg) /\ wy.cell? ⟨p,1,none⟩ = some (.slice ao n cap) /\ wy.cell? ⟨q,0,none⟩ = some (.bool neg') /\ wy.cell? ⟨q,1,none⟩ = some (.slice ao' n' cap') /\ Below W.heap.size W wy:=by
 obtain ⟨h1,h2,h3,h4,h5⟩:=h
 exact ⟨(hb.cell (p:=⟨p,0,none⟩) (cell_lt h1)).trans h1,(hb.cell (p:=⟨p,1,none⟩) (cell_lt h1)).trans h2,(hb.cell (p:=⟨q,0,none⟩) (cell_lt h3)).trans h3,(hb.cell (p:=⟨q,1,none⟩) (cell_lt h3)).trans h4,Bt h5 hb⟩
theorem two_start (w : World) (neg neg' : Bool) (ao ao' : Option Addr) (n cap n' cap' : Nat) (t : TypeId) :
  ∀ W,W = ((w.alloc (.cells #[.bool neg,.slice ao n cap] t)).alloc (.cells #[.bool neg',.slice ao' n' cap'] t)) ->
  W.cell? ⟨w.heap.size,0,none⟩ = some (.bool neg) /\ W.cell? ⟨w.heap.size,1,none⟩ = some (.slice ao n cap) /\ W.cell? ⟨w.heap.size + 1,0,none⟩ = some (.bool neg') /\ W.cell? ⟨w.heap.size + 1,1,none⟩ = some (.slice ao' n' cap') /\ Below W.heap.size W W:=by
 intro W hW
 subst hW
 refine ⟨?_,?_,?_,?_,Below.refl _ _⟩ <;> simp
theorem two_bel {W wx : World} {p q : Nat} {neg neg' : Bool} {ao ao' : Option Addr} {n cap n' cap' : Nat}
  (h : wx.cell? ⟨p,0,none⟩ = some (.bool neg) /\ wx.cell? ⟨p,1,none⟩ = some (.slice ao n cap) /\ wx.cell? ⟨q,0,none⟩ = some (.bool neg') /\ wx.cell? ⟨q,1,none⟩ = some (.slice ao' n' cap') /\ Below W.heap.size W wx) : Below W.heap.size W wx:=h.2.2.2.2
theorem two_drew {W wx : World} {p q : Nat} {neg neg' : Bool} {ao ao' : Option Addr} {n cap n' cap' : Nat}
  (h : wx.cell? ⟨p,0,none⟩ = some (.bool neg) /\ wx.cell? ⟨p,1,none⟩ = some (.slice ao n cap) /\ wx.cell? ⟨q,0,none⟩ = some (.bool neg') /\ wx.cell? ⟨q,1,none⟩ = some (.slice ao' n' cap') /\ Below W.heap.size W wx) :
  wx.drew.cell? ⟨p,0,none⟩ = some (.bool neg) /\ wx.drew.cell? ⟨p,1,none⟩ = some (.slice ao n cap) /\ wx.drew.cell? ⟨q,0,none⟩ = some (.bool neg') /\ wx.drew.cell? ⟨q,1,none⟩ = some (.slice ao' n' cap') /\ Below W.heap.size W wx.drew :=
 two_on h (Bd wx 1)
theorem rsize_bel (ao ao' : Option Addr) (n cap n' cap' : Nat) (l l' : List Nat) (w : World) (R : Row .u8 256 w ao n cap l) (R' : Row .u8 256 w ao' n' cap' l') (t : Tr l) (t' : Tr l') :
  Calls Tryz.prog 152 #[.slice ao n cap,.slice ao' n' cap'] w fun e w'=>e = .returned (.int .i64 (cmpN (val 256 l) (val 256 l'))) /\ Below w.heap.size w w' :=
 (rsize_any ao ao' n cap n' cap' l l' w R R' t t').mono fun e w' ⟨h1,k,h2⟩=>⟨h1,h2 ▸ Bd w k⟩
set_option maxHeartbeats 2000000 in
theorem rcmp_any (neg neg' : Bool) (ao ao' : Option Addr) (n cap n' cap' : Nat) (l l' : List Nat) (w : World) (R : Row .u32 B32 w ao n cap l) (R' : Row .u32 B32 w ao' n' cap' l') (hs : n <= 100) (hs' : n' <= 100) :
  Calls Tryz.prog 100 #[.agg #[.bool neg,.slice ao n cap],.agg #[.bool neg',.slice ao' n' cap']] w fun e w'=>e = .returned (.int .i64 (cmpR neg neg' (val B32 l) (val B32 l'))) /\ Below w.heap.size w w':=by
 by_cases hne : neg = neg'
 ·subst hne
  have e0 : (neg != neg) = false:=by simp
  have HR:=hid R
  have HR':=hid R'
  clear R R'
  go_enter Tryz.func100,Tryz.ntmps100
  go_wp2
  have hS:=two_start w neg neg ao ao' n cap n' cap' 104 _ rfl
  have hbW:=Baa w (.cells #[.bool neg,.slice ao n cap] 104) (.cells #[.bool neg,.slice ao' n' cap'] 104)
  generalize hW : ((w.alloc (.cells #[.bool neg,.slice ao n cap] 104)).alloc (.cells #[.bool neg,.slice ao' n' cap'] 104)) = W at *
  have RW:=hid (HR.out.below hbW)
  have RW':=hid (HR'.out.below hbW)
  have HbW:=hid hbW
  clear hW hbW
  go_region_held3 (fun wx=>wx.cell? ⟨w.heap.size,0,none⟩ = some (.bool neg) /\ wx.cell? ⟨w.heap.size,1,none⟩ = some (.slice ao n cap) /\ wx.cell? ⟨w.heap.size + 1,0,none⟩ = some (.bool neg) /\ wx.cell? ⟨w.heap.size + 1,1,none⟩ = some (.slice ao' n' cap') /\ Below W.heap.size W wx)
   (first | exact two_drew hS | exact two_on (by assumption) (by assumption))
   (first
    | (go_at_call_of 139 (Value.slice ao n cap);refine (bytes_any neg ao n cap l _ ?_ hs).mono ?_;(exact RW.out.below (two_bel (p:=w.heap.size) (q:=w.heap.size + 1) (neg:=neg) (neg':=neg) (ao:=ao) (ao':=ao') (n:=n) (cap:=cap) (n':=n') (cap':=cap') (by assumption)));rintro e w1 ⟨m1,ao1,cap1,l1,rfl,hm1,hO1,ht1,hv1,hb1⟩)
    | (go_at_call_of 139 (Value.slice ao' n' cap');refine (bytes_any neg ao' n' cap' l' _ ?_ hs').mono ?_;(exact RW'.out.below (two_bel (p:=w.heap.size) (q:=w.heap.size + 1) (neg:=neg) (neg':=neg) (ao:=ao) (ao':=ao') (n:=n) (cap:=cap) (n':=n') (cap':=cap') (by assumption)));rintro e w1 ⟨m2,ao2,cap2,l2,rfl,hm2,hO2,ht2,hv2,hb2⟩)
    | (go_at_call 152;refine (rsize_bel ao1 ao2 m1 cap1 m2 cap2 l1 l2 _ (hO1.row.below hb2) hO2.row ht1 ht2).mono ?_;rintro e w3 ⟨rfl,hb3⟩))
  have hbel : Hid (Below w.heap.size w w3):=Bt HbW.out (two_bel (p:=w.heap.size) (q:=w.heap.size + 1) (neg:=neg) (neg':=neg) (ao:=ao) (ao':=ao') (n:=n) (cap:=cap) (n':=n') (cap':=cap') (by assumption))
  have hc : w3.cell? ⟨w.heap.size,0,none⟩ = some (.bool neg):=by rename_i hh;exact hh.1
  rename_i hh
  have hbd:=cmpN_bd (val B32 l) (val B32 l')
  generalize hN : cmpN (val B32 l) (val B32 l') = N at *
  have HN : Hid (cmpR neg neg (val B32 l) (val B32 l') = if neg then - N else N):=by unfold Hid;rw [cmpR_eq,hN]
  clear hh hS hb3 hb2 hb1 hO1 hO2 hv1 hv2 ht1 ht2 hN
  cases neg
  ·go_wp2
   go_ret
   exact ⟨ret_i64 (by rw [HN.out];simp),hbel.out⟩
  ·go_wp2
   go_ret
   exact ⟨ret_i64 (by rw [HN.out];simp),hbel.out⟩
 ·have e0 : (neg != neg') = true := by rw [bne_iff_ne]; exact hne
  have HC:=hid (cmpR_ne (val B32 l) (val B32 l') hne)
  clear R R'
  cases neg <;> cases neg'
  ·exact absurd rfl hne
  ·go_enter Tryz.func100, Tryz.ntmps100
   go_wp2
   go_ret
   exact ⟨ret_i64 (by rw [HC.out];simp),Baa _ _ _⟩
  ·go_enter Tryz.func100, Tryz.ntmps100
   go_wp2
   go_ret
   exact ⟨ret_i64 (by rw [HC.out];simp),Baa _ _ _⟩
  ·exact absurd rfl hne
set_option maxHeartbeats 1000000 in
theorem rsame_any (neg neg' : Bool) (ao ao' : Option Addr) (n cap n' cap' : Nat) (l l' : List Nat) (w : World) (R : Row .u32 B32 w ao n cap l) (R' : Row .u32 B32 w ao' n' cap' l') (hs : n <= 100) (hs' : n' <= 100) :
  Calls Tryz.prog 55 #[.agg #[.bool neg,.slice ao n cap],.agg #[.bool neg',.slice ao' n' cap']] w fun e w'=>e = .returned (.bool (cmpR neg neg' (val B32 l) (val B32 l') == 0)) /\ Below w.heap.size w w':=by
 have HR:=hid R
 have HR':=hid R'
 clear R R'
 go_enter Tryz.func55,Tryz.ntmps55
 go_wp2_with fail
 refine (rcmp_any neg neg' ao ao' n cap n' cap' l l' _ (HR.out.below (Baa _ _ _)) (HR'.out.below (Baa _ _ _)) hs hs').mono ?_
 rintro e w1 ⟨rfl,hb⟩
 have hb':=hid (Bt (Baa w _ _) hb)
 clear hb
 go_wp2
 go_ret
 exact ⟨rfl,hb'.out⟩
theorem blk_on {w w2 : World} {o : Obj} {p : Nat} {c : Array Value} {t : TypeId} (h : w.heap[p]? = some (.cells c t (0,0))) (hb : Below (p + 1) (w.alloc o) w2) : w2.heap[p]? = some (.cells c t (0,0)) :=
 (hb.block p (by omega)).trans ((Below.heap_alloc w o p (Array.getElem?_eq_some_iff.1 h).1).trans h)
set_option maxHeartbeats 2000000 in
theorem rwhole_any (neg : Bool) (ao : Option Addr) (n cap : Nat) (b : List Nat) (w : World) (R : Row .u8 256 w ao n cap b) (hs : n <= 1000) :
  Calls Tryz.prog 138 #[.bool neg,.slice ao n cap] w fun e w'=>∃ x en,e = .returned (.tuple #[x,.int .i64 en]) /\ Ans w' x en neg (val 256 b) /\ Below w.heap.size w w':=by
 have HR:=hid R
 clear R
 go_enter Tryz.func138,Tryz.ntmps138
 go_wp2_with fail
 refine (rtrim_any ao n cap b _ (HR.out.below (Ba _ _)) hs).mono ?_
 rintro e w1 ⟨m,ao1,cap1,hm,rfl,hO,ht,hv,hb1⟩
 have hd0 : w1.heap[w.heap.size]? = some (.cells #[.bool false,.slice none 0 0] 104 (0,0)):=(hb1.block w.heap.size (by simp)).trans (blk_new _ _ _)
 have hlen:=hO.row.len
 generalize b.take m = r at *
 have hcap1:=hO.row.fits
 have hmax1:=hO.row.most
 unfold maxLen at hmax1
 have HO:=hid hO
 have HT:=hid ht
 have HV:=hid hv
 have HB:=hid (Bt (Ba w (.cells #[.bool false,.slice none 0 0] 104)) hb1)
 have HL:=hid hlen
 have HD0:=hid hd0
 have hsz : w.heap.size < w1.heap.size:=(Array.getElem?_eq_some_iff.1 hd0).1
 clear hO ht hv hb1 hlen hd0 HR
 obtain ⟨sg,hsg⟩ : ∃ sg,sg = (neg && decide (0 < m)):=⟨_,rfl⟩
 have HSG:=hid hsg
 clear hsg
 cases neg
 all_goals
  go_wp2
  go_loopw [7,8,9] (fun i _ _ wr=>∃ j : Nat,∃ v,i = .int .i64 ((4 * j : Nat) : Int) /\ 4 * j <= m + 3 /\ Hid (wr.heap[w1.heap.size]? = some (.cells #[.bool sg,v] 104 (0,0)) /\ wr.ownsRow (w1.heap.size + 1) 163 1 v j (cs .u32 (lws r j)) /\ Below w1.heap.size w1 wr)) (fun i _ _ _=>m + 3 - (intOf i).toNat)
  case atStart =>
   refine ⟨0,.slice none 0 0,rfl,by omega,?_,?_,Ba _ _⟩
   ·rw [HSG.out];exact blk_new _ _ _
   ·simpa [lws,cs] using World.ownsRow_nil _ _ _ _
  case round =>
   obtain ⟨j,v,rfl,hj,hH⟩:=hrel
   obtain ⟨h1,h2,h3⟩:=hH.out
   have hc0:=blk_cell h1 0
   have hc1:=blk_cell h1 1
   have hf1:=blk_free h1 1
   simp at hc0 hc1
   have hz1 : w1.heap.size < wr.heap.size:=(Array.getElem?_eq_some_iff.1 h1).1
   have HZ1:=hid hz1
   have H2:=hid h2
   have H3:=hid h3
   have H1:=hid h1
   clear h1 h2 h3 hH hz1
   by_cases hlt : 4 * j < m
   ·obtain ⟨bb, o, rfl, hl, hcl⟩ := HO.out.row.rd.some (by rw [HL.out]; omega)
    have HCL : Hid (∀ i,i < m -> wr.cell? ⟨bb,o + i,none⟩ = some (.int .u8 (r.getD i 0 : Nat))):=fun i hi=>(H3.out.cell (p:=⟨bb,o + i,none⟩) hl).trans (hcl i (by rw [HL.out];exact hi))
    clear hcl
    go_wp2
    go_loop [8,9] (fun a k=>∃ q acc : Nat,q <= 4 /\ 4 * j + q <= m /\ k = .int .i64 q /\ a = .int .u32 acc /\ Hid (acc = val 256 ((r.drop (4 * j)).take q))) (fun _ k=>4 - (intOf k).toNat)
    case atStart=>exact ⟨0,0,by omega,by omega,rfl,rfl,rfl⟩
    case round =>
     obtain ⟨q,acc,hq,hqm,rfl,rfl,hacc⟩:=hrel
     have hlim : acc < 256 ^ q:=by rw [hacc.out];exact acc_lt HO.out.row.dg j q
     by_cases hgo : q < 4 /\ 4 * j + q < m
     ·obtain ⟨hq4, hqlt⟩ := hgo
      have hcd:=HCL.out (4 * j + q) hqlt
      obtain ⟨d,hd⟩ : ∃ d,d = r.getD (4 * j + q) 0:=⟨_,rfl⟩
      have hdb : d < 256:=by rw [hd];exact HO.out.row.dg.getD _ (by rw [HL.out];exact hqlt)
      rw [<- hd] at hcd
      have HS : Hid (val 256 ((r.drop (4 * j)).take (q + 1)) = acc + 256 ^ q * d):=by
       unfold Hid;rw [acc_step r j q (by rw [HL.out];exact hqlt),<- hacc.out,<- hd]
      clear hd hacc
      have hq' : q = 0 \/ q = 1 \/ q = 2 \/ q = 3:=by omega
      rcases hq' with rfl | rfl | rfl | rfl
      ·obtain rfl : acc = 0 := by simp at hlim; exact hlim
       have hor:=or_u32_0 d hdb
       simp only [Nat.add_zero] at hcd
       clear hlim
       go_wp2
       exact ⟨⟨1,d,by omega,by omega,rfl,rfl,by unfold Hid;rw [HS.out];omega⟩,by simp [intOf]⟩
      ·have hor := or_u32_8 acc d (by omega) hdb
       obtain ⟨A,hA⟩ : ∃ A,A = acc + 256 * d:=⟨_,rfl⟩
       rw [<- hA] at hor
       have HA:=hid hA
       clear hlim hA
       go_wp2
       exact ⟨⟨2,A,by omega,by omega,rfl,rfl,by unfold Hid;rw [HS.out,HA.out]⟩,by simp [intOf]⟩
      ·have hor := or_u32_16 acc d (by omega) hdb
       obtain ⟨A,hA⟩ : ∃ A,A = acc + 65536 * d:=⟨_,rfl⟩
       rw [<- hA] at hor
       have HA:=hid hA
       clear hlim hA
       go_wp2
       exact ⟨⟨3,A,by omega,by omega,rfl,rfl,by unfold Hid;rw [HS.out,HA.out]⟩,by simp [intOf]⟩
      ·have hor := or_u32_24 acc d (by omega) hdb
       obtain ⟨A,hA⟩ : ∃ A,A = acc + 16777216 * d:=⟨_,rfl⟩
       rw [<- hA] at hor
       have HA:=hid hA
       clear hlim hA
       go_wp2
       exact ⟨⟨4,A,by omega,by omega,rfl,rfl,by unfold Hid;rw [HS.out,HA.out]⟩,by simp [intOf]⟩
     ·have HLW : Hid (acc = lw r j) := by
       unfold Hid lw;rw [hacc.out]
       by_cases h4 : q = 4
       ·rw [h4]
       ·have hqe : 4 * j + q = m := by omega
        rw [List.take_of_length_le (l:=r.drop (4 * j)) (i:=q) (by rw [List.length_drop,HL.out];omega),List.take_of_length_le (l:=r.drop (4 * j)) (i:=4) (by rw [List.length_drop,HL.out];omega)]
      have hgo' : q = 4 \/ q < 4 /\ 4 * j + q = m:=by omega
      have hacb : acc < 4294967296:=by rw [HLW.out];exact lw_lt HO.out.row.dg j
      clear hacc hlim hgo
      rcases hgo' with rfl | ⟨hq4,hqe⟩
      all_goals
       go_wp2_with (at_builtin;refine app1 rfl _ _ 102 rfl (w1.heap.size + 1) 163 .u32 4 (by decide) Tryz.underlying102 info_u32 _ _ _ rfl (H2.out.alloc _) ⟨wr.heap.size,0,none⟩ 1 acc rfl (cell_new _ _ _) (by omega) (by have:=HZ1.out;simp;omega) ?_;intro g cap' w2 hown hbel;have hk:=blk_on H1.out hbel;have hk1 : w2.cell? ⟨w1.heap.size,1,none⟩ = some v:=blk_cell hk 1;have hkf:=blk_free hk 1;have HK:=hid hk;have HW:=hid hown;have HE:=hid hbel;clear hk hown hbel)
       refine ⟨⟨j + 1,.slice (some ⟨g,0,none⟩) (j + 1) cap',by go_num,by omega,blk_set HK.out _,?_,?_⟩,by simp [intOf];omega⟩
       ·rw [lws_succ,<- HLW.out];exact ownsRow_setCell_below HW.out (by simp) _
       ·exact ((H3.out.alloc (by have:=HZ1.out;omega) _).trans (HE.out.mono (by omega))).setCell (Nat.le_refl _) _
   ·have hjm : m <= 4 * j := by omega
    obtain ⟨ao2,cap2,hu,hO2⟩:=own_of H2.out (lws_dg HO.out.row.dg j)
    subst hu
    have HV2 : Hid (val B32 (lws r j) = val 256 b):=by
     unfold Hid;rw [lws_val r j (by rw [HL.out];exact hj),List.take_of_length_le (by rw [HL.out];exact hjm),HV.out]
    have HT2:=hid (lws_tr HT.out j (by rw [HL.out];exact hjm) (by rw [HL.out];exact hj))
    have HO2:=hid hO2
    have HSG2 : Hid (decide (0 < m) = decide (lws r j ≠ [])):=by
     unfold Hid
     rw [decide_eq_decide,<- List.length_pos_iff,lws_length]
     omega
    have hbnd:=hO2.row.most
    have hft2:=hO2.row.fits
    unfold maxLen at hbnd
    have hd0 : wr.heap[w.heap.size]? = some (.cells #[.bool false,.slice none 0 0] 104 (0,0)):=(H3.out.block _ hsz).trans HD0.out
    have hq0:=blk_cell hd0 0
    have hq1:=blk_cell hd0 1
    have hqf0:=blk_free hd0 0
    have hqf1:=blk_free hd0 1
    simp at hq0 hq1
    have HQ:=hid hd0
    clear hd0 hO2
    have HB3:=hid (HB.out.trans (H3.out.mono (Nat.le_of_lt hsz)))
    by_cases h40 : j <= 40
    ·have e40 : decide ((40 : Int) < j) = false := by simp; omega
     go_wp2
     refine bodyPost_ret (v:=.tuple #[.agg #[.bool sg,.slice ao2 j cap2],.int .i64 0]) (by simp [results,Tryz.results138,go_sem,hq0,hq1]) rfl ⟨_,_,rfl,.inl ⟨?_,rfl,lws r j,⟨ao2,j,cap2,?_,((HO2.out.setFar (p:=⟨w.heap.size,0,none⟩) (by simp;omega) _).setFar (p:=⟨w.heap.size,1,none⟩) (by simp;omega) _).row⟩,HT2.out,HV2.out⟩,(HB3.out.setCell (Nat.le_refl _) _).setCell (Nat.le_refl _) _⟩
     ·rw [<- HV2.out,<- small_len (lws_dg HO.out.row.dg j) HT2.out,lws_length];exact h40
     ·rw [HSG.out,HSG2.out]
    ·have e40 : decide ((40 : Int) < j) = true := by simp; omega
     go_wp2
     refine bodyPost_ret (v:=.tuple #[.agg #[.bool false,.slice none 0 0],.int .i64 10]) (by simp [results,Tryz.results138,go_sem,hq0,hq1]) rfl ⟨_,_,rfl,.inr ⟨?_,rfl,rfl⟩,(HB3.out.setCell (Nat.le_refl _) _).setCell (Nat.le_refl _) _⟩
     have:=(small_len (lws_dg HO.out.row.dg j) HT2.out)
     rw [lws_length,HV2.out] at this
     exact Classical.byContradiction fun h=>h40 (this.2 h)
theorem or_join (hi lo : Nat) (h1 : hi < 4294967296) (h2 : lo < 4294967296) : bits .or .u64 ((hi : Int) * 4294967296) (lo : Int) = ((hi * 4294967296 + lo : Nat) : Int):=by
 rw [show ((hi : Int) * 4294967296) = ((hi * 4294967296 : Nat) : Int) by omega,u64_or_nat _ _ (by omega) (by omega),nat_join 32 _ _ (by omega) (by omega)]
theorem div_fits (z v : Nat) (h : z / v < 4294967296) : IntKind.u64.wrap ((z : Int).tdiv v) % 4294967296 = ((z / v : Nat) : Int):=by
 rw [<- Int.ofNat_tdiv,IntKind.wrap_u64];generalize z / v = q at *;omega
theorem mod_fits (z v : Nat) (h : z % v < 4294967296) : (z : Int).tmod v % 4294967296 = ((z % v : Nat) : Int):=by
 rw [<- Int.ofNat_tmod];generalize z % v = q at *;omega
theorem ret_two {a b c d : Value} (h1 : a = c) (h2 : b = d) : Ending.returned (.tuple #[a,b]) = .returned (.tuple #[c,d]):=by rw [h1,h2]
set_option maxHeartbeats 400000 in
theorem div32_any (hi lo v : Nat) (hh : hi < v) (hl : lo < B32) (hv : v < B32) (w : World) :
  Calls Tryz.prog 202 #[.int .u32 hi,.int .u32 lo,.int .u32 v] w fun e w'=>e = .returned (.tuple #[.int .u32 ((hi * B32 + lo) / v : Nat),.int .u32 ((hi * B32 + lo) % v : Nat)]) /\ ∃ k,w' = w.drewN k:=by
 unfold B32 at *
 have e1 : ((v : Int) != 0) = true:=by rw [bne_iff_ne];omega
 have e2 : decide ((v : Int) <= hi) = false:=by simp;omega
 have hor:=or_join hi lo (by omega) hl
 obtain ⟨z,hz⟩ : ∃ z,z = hi * 4294967296 + lo:=⟨_,rfl⟩
 rw [<- hz] at hor ⊢
 have hq : z / v < 4294967296:=by
  rw [Nat.div_lt_iff_lt_mul (by omega)]
  have : (hi + 1) * 4294967296 <= v * 4294967296:=Nat.mul_le_mul_right _ hh
  omega
 have hr : z % v < 4294967296:=by have:=Nat.mod_lt z (by omega : 0 < v);omega
 have hz2 : z < 18446744073709551616:=by omega
 have HQ : Hid (z / v < 4294967296):=hq
 have HR : Hid (z % v < 4294967296):=hr
 clear hz hq hr hz2
 go_enter Tryz.func202,Tryz.ntmps202
 go_wp2
 go_quiet (fail)
 go_wp2
 go_ret2
 refine ⟨ret_two ?_ ?_,nq,rfl⟩
 ·exact congrArg (Value.int .u32) (div_fits z v HQ.out)
 ·exact congrArg (Value.int .u32) (mod_fits z v HR.out)
theorem divStep {B r v q : Nat} (hv : 0 < v) (m : Nat) (L : List Nat) (hm : m < L.length) (h1 : val B (L.drop (m + 1)) = q * v + r) (hr : r < v) :
  val B (L.drop m) = ((r * B + L.getD m 0) / v + B * q) * v + (r * B + L.getD m 0) % v:=by
 rw [val_drop_succ B L m hm,h1]
 have:=Nat.div_add_mod (r * B + L.getD m 0) v
 rw [Nat.add_mul,Nat.mul_add,Nat.mul_assoc B q v,Nat.mul_comm B r]
 rw [Nat.mul_comm v] at this
 omega
theorem set_take_append {l q : List Nat} {m x : Nat} (hm : m < l.length) : (l.take (m + 1) ++ q).set m x = l.take m ++ (x :: q):=by
 rw [take_snoc l m hm,List.append_assoc,List.set_append,if_neg (by rw [List.length_take];omega),List.length_take,Nat.min_eq_left (by omega)]
 simp
set_option maxHeartbeats 1000000 in
theorem divSmall_any (g o n cap : Nat) (cur : Array Value) (l : List Nat) (v : Nat) (w : World) (W : Win .u32 163 w g o n cur l) (hd : Dg B32 l) (hn : n <= maxLen) (hv0 : 0 < v) (hv : v < B32) :
  Calls Tryz.prog 186 #[.slice (some ⟨g,o,none⟩) n cap,.int .u32 v] w fun e w'=>e = .returned (.int .u32 (val B32 l % v : Nat)) /\ ∃ l',Onto .u32 163 g o n w w' cur l' /\ Dg B32 l' /\ val B32 l' = val B32 l / v:=by
 have HW : Hid (Win .u32 163 w g o n cur l):=W
 have HD : Hid (Dg B32 l):=hd
 have HL : Hid (l.length = n):=W.len
 unfold maxLen at hn
 clear W hd
 go_enter Tryz.func186,Tryz.ntmps186
 go_wp2
 go_loopw [5,6] (fun t i wr=>∃ m r : Nat,∃ q : List Nat,m <= n /\ i = .int .i64 ((m : Int) - 1) /\ t = .int .u32 r /\ r < v /\ Hid (q.length = n - m /\ Dg B32 q /\ val B32 (l.drop m) = val B32 q * v + r /\ Onto .u32 163 g o n w wr cur (l.take m ++ q))) (fun _ i _=>(intOf i + 1).toNat)
 case atStart=>exact ⟨n,0,[],Nat.le_refl _,rfl,rfl,hv0,by simp,Dg.nil _,by rw [List.drop_eq_nil_of_le (by rw [HL.out];omega)];simp [val],by
  rw [List.take_of_length_le (by rw [HL.out];omega),List.append_nil];exact HW.out.onto⟩
 case round =>
  obtain ⟨m,r,q,hm,rfl,rfl,hr,hH⟩:=hrel
  by_cases hz : m = 0
  ·subst hz
   go_wp2
   go_ret
   obtain ⟨h1,h2,h3,h4⟩:=hH.out
   rw [List.drop_zero] at h3
   rw [h3]
   refine ⟨congrArg (fun z : Nat=>Ending.returned (.int .u32 (z : Int))) ?_,q,by simpa using h4,h2,?_⟩
   ·rw [Nat.mul_comm,Nat.mul_add_mod,Nat.mod_eq_of_lt hr]
   ·rw [Nat.mul_comm,Nat.mul_add_div hv0,Nat.div_eq_of_lt hr];rfl
  ·obtain ⟨p, rfl⟩ : ∃ p, m = p + 1 := ⟨m - 1, by omega⟩
   obtain ⟨d,hd⟩ : ∃ d,d = l.getD p 0:=⟨_,rfl⟩
   have hll : p < l.length:=by rw [HL.out];omega
   have hdb : d < B32:=by rw [hd];exact HD.out.getD _ hll
   have hc : wr.cell? ⟨g,o + p,none⟩ = some (.int .u32 d):=by
    have:=hH.out.2.2.2.cell (i:=p) (by omega)
    rw [getD_append_left (by rw [List.length_take];omega),getD_take (by omega),<- hd] at this
    exact this
   have hf : wr.frozen? ⟨g,o + p,none⟩ = false:=hH.out.2.2.2.frozen _
   have H1 : Hid (d = l.getD p 0):=hd
   have HP : Hid (p < l.length):=hll
   clear hd hll
   obtain ⟨Q,hQ⟩ : ∃ Q,Q = (r * B32 + d) / v:=⟨_,rfl⟩
   obtain ⟨R,hR⟩ : ∃ R,R = (r * B32 + d) % v:=⟨_,rfl⟩
   have HC : Hid (∀ w,Calls Tryz.prog 202 #[.int .u32 r,.int .u32 d,.int .u32 v] w fun e w'=>e = .returned (.tuple #[.int .u32 Q,.int .u32 R]) /\ ∃ k,w' = w.drewN k):=fun w=>by rw [hQ,hR];exact div32_any r d v hr hdb hv w
   have HQ : Hid (Q = (r * B32 + d) / v):=hQ
   have HR : Hid (R = (r * B32 + d) % v):=hR
   have hRv : R < v:=by rw [hR];exact Nat.mod_lt _ hv0
   have HB : Hid (Q < B32):=by
    unfold Hid
    rw [hQ,Nat.div_lt_iff_lt_mul hv0]
    have : (r + 1) * B32 <= v * B32:=Nat.mul_le_mul_right _ hr
    rw [Nat.add_mul] at this
    rw [Nat.mul_comm B32 v]
    omega
   clear hQ hR
   go_wp2_with (go_at_call 202;refine (HC.out _).mono ?_;rintro e w' ⟨rfl,q1,rfl⟩)
   obtain ⟨h1,h2,h3,h4⟩:=hH.out
   refine ⟨⟨p,R,Q :: q,by omega,rfl,rfl,hRv,?_,?_,?_,?_⟩,by simp [intOf] <;> omega⟩
   ·simp [h1];omega
   ·exact fun x hx=>by rcases List.mem_cons.1 hx with rfl | hx;exact HB.out;exact h2 x hx
   ·rw [divStep hv0 p l HP.out h3 hr,<- H1.out,<- HQ.out,<- HR.out,val_cons]
   ·rw [<- set_take_append HP.out];exact (h4.drewN q1).store (by omega) Q
set_option maxHeartbeats 400000 in
theorem isRadix_any (r : Int) (w : World) :
  Calls Tryz.prog 183 #[.int .i64 r] w fun e w'=>e = .returned (.bool (decide (2 <= r /\ r <= 36))) /\ w' = w:=by
 by_cases h1 : 2 <= r
 ·have e1 : decide ((2 : Int) <= r) = true := by simp [h1]
  go_enter Tryz.func183,Tryz.ntmps183
  go_wp2
  go_ret
  exact ⟨ret_bool (by simp [h1]),rfl⟩
 ·have e1 : decide ((2 : Int) <= r) = false := by simp; omega
  go_enter Tryz.func183,Tryz.ntmps183
  go_wp2
  go_ret
  exact ⟨ret_bool (by simp [h1]),rfl⟩
def dgt (c : Nat) : Nat:=if 48 <= c /\ c <= 57 then c - 48 else if 97 <= c /\ c <= 122 then c - 87 else if 65 <= c /\ c <= 90 then c - 55 else 36
theorem dgt_le (c : Nat) : dgt c <= 36:=by unfold dgt;split <;>(try split) <;>(try split) <;> omega
set_option maxHeartbeats 800000 in
theorem digitOf_any (c : Nat) (hc : c < 256) (w : World) :
  Calls Tryz.prog 215 #[.int .u8 c] w fun e w'=>e = .returned (.int .i64 (dgt c)) /\ w' = w:=by
 by_cases a1 : 48 <= c /\ c <= 57
 ·obtain ⟨a, b⟩ := a1
  have HV : Hid (dgt c = c - 48):=by unfold Hid dgt;rw [if_pos ⟨a,b⟩]
  go_enter Tryz.func215,Tryz.ntmps215
  go_wp2
  go_ret
  exact ⟨ret_i64 (by rw [HV.out];omega),rfl⟩
 ·by_cases a2 : 97 <= c /\ c <= 122
  ·obtain ⟨a, b⟩ := a2
   have HV : Hid (dgt c = c - 87):=by unfold Hid dgt;rw [if_neg a1,if_pos ⟨a,b⟩]
   clear a1
   go_enter Tryz.func215,Tryz.ntmps215
   go_wp2
   go_ret
   exact ⟨ret_i64 (by rw [HV.out];omega),rfl⟩
  ·by_cases a3 : 65 <= c /\ c <= 90
   ·obtain ⟨a, b⟩ := a3
    have HV : Hid (dgt c = c - 55):=by unfold Hid dgt;rw [if_neg a1,if_neg a2,if_pos ⟨a,b⟩]
    clear a1 a2
    go_enter Tryz.func215,Tryz.ntmps215
    go_wp2
    go_ret
    exact ⟨ret_i64 (by rw [HV.out];omega),rfl⟩
   ·have HV : Hid (dgt c = 36) := by unfold Hid dgt; rw [if_neg a1, if_neg a2, if_neg a3]
    have hr : c < 48 \/ (57 < c /\ c < 65) \/ (90 < c /\ c < 97) \/ 122 < c:=by omega
    clear a1 a2 a3
    rcases hr with h | ⟨h,h'⟩ | ⟨h,h'⟩ | h
    all_goals
     go_enter Tryz.func215,Tryz.ntmps215
     go_wp2
     go_ret
     exact ⟨ret_i64 (by rw [HV.out];rfl),rfl⟩
theorem mulStep {B f vq P vt d x cc : Nat} (h : vq + P * cc = vt * f + d) : vq + P * ((x * f + cc) % B) + P * B * ((x * f + cc) / B) = (vt + P * x) * f + d:=by
 have h1:=Nat.div_add_mod (x * f + cc) B
 have h2 : P * ((x * f + cc) % B) + P * B * ((x * f + cc) / B) = P * (x * f + cc):=by
  rw [Nat.mul_assoc,<- Nat.mul_add,Nat.add_comm ((x * f + cc) % B),h1]
 rw [Nat.add_assoc,h2,Nat.mul_add,Nat.add_mul,Nat.mul_assoc P x f]
 omega
theorem set_append_drop {q l : List Nat} {m x : Nat} (hq : q.length = m) (hm : m < l.length) : (q ++ l.drop m).set m x = q ++ [x] ++ l.drop (m + 1):=by
 rw [drop_cons l m hm,List.set_append,if_neg (by omega),hq,Nat.sub_self]
 simp
set_option maxHeartbeats 1000000 in
theorem mulSmall_any (g o n cap : Nat) (cur : Array Value) (l : List Nat) (f d : Nat) (w : World) (W : Win .u32 163 w g o n cur l) (hdg : Dg B32 l) (hn : n <= maxLen) (hf : f < B32) (hd : d < B32) :
  Calls Tryz.prog 216 #[.slice (some ⟨g,o,none⟩) n cap,.int .u32 f,.int .u32 d] w fun e w'=>∃ l' c,e = .returned (.int .u32 (c : Nat)) /\ Onto .u32 163 g o n w w' cur l' /\ Dg B32 l' /\ c < B32 /\ val B32 l' + B32 ^ n * c = val B32 l * f + d:=by
 have HW:=hid W
 have HD:=hid hdg
 have HL:=hid W.len
 unfold maxLen at hn
 unfold B32 at hf hd
 clear W hdg
 go_enter Tryz.func216,Tryz.ntmps216
 go_wp2
 go_loopw [7,8,9,10,15] (fun c _ _ _ i wr=>∃ m : Nat,∃ cc : Nat,∃ q : List Nat,m <= n /\ i = .int .i64 m /\ c = .int .u64 cc /\ cc < 4294967296 /\ Hid (q.length = m /\ Dg B32 q /\ val B32 q + B32 ^ m * cc = val B32 (l.take m) * f + d /\ Onto .u32 163 g o n w wr cur (q ++ l.drop m))) (fun _ _ _ _ i _=>n - (intOf i).toNat)
 case atStart=>exact ⟨0,d,[],Nat.zero_le _,rfl,rfl,hd,rfl,Dg.nil _,by simp [val],by simpa using HW.out.onto⟩
 case round =>
  obtain ⟨m,cc,q,hm,rfl,rfl,hcc,hI⟩:=hrel
  by_cases hlt : m < n
  ·obtain ⟨x, hx⟩ : ∃ x, x = l.getD m 0 := ⟨_, rfl⟩
   have hll : m < l.length:=by rw [HL.out];exact hlt
   have hxb : x < 4294967296:=by rw [hx];exact HD.out.getD _ hll
   have hc : wr.cell? ⟨g,o + m,none⟩ = some (.int .u32 x):=by
    have:=hI.out.2.2.2.cell (i:=m) hlt
    rw [List.getD_eq_getElem?_getD,List.getElem?_append_right (by rw [hI.out.1];omega),hI.out.1,Nat.sub_self,List.getElem?_drop,Nat.add_zero,<- List.getD_eq_getElem?_getD,<- hx] at this
    exact this
   have hfz : wr.frozen? ⟨g,o + m,none⟩ = false:=hI.out.2.2.2.frozen _
   have HX:=hid hx
   have HLL:=hid hll
   clear hx hll
   have hb : x * f + cc <= 18446744073709551615:=by
    have : x * f <= 4294967295 * 4294967295:=Nat.mul_le_mul (by omega) (by omega)
    omega
   obtain ⟨t,ht⟩ : ∃ t,t = x * f + cc:=⟨_,rfl⟩
   have HT:=hid ht
   clear ht
   go_wp2
   obtain ⟨h1,h2,h3,h4⟩:=hI.out
   have e1 : ((x : Int) * f + cc) / 4294967296 = ((t / 4294967296 : Nat) : Int):=by rw [HT.out];omega
   have e2 : ((x : Int) * f + cc) % 4294967296 = ((t % 4294967296 : Nat) : Int):=by rw [HT.out];omega
   rw [e1,e2]
   refine ⟨⟨m + 1,t / 4294967296,q ++ [t % 4294967296],by omega,by go_num,rfl,?_,?_,?_,?_,?_⟩,by simp [intOf];omega⟩
   ·rw [HT.out];omega
   ·simp [h1]
   ·exact h2.append (Dg.one (Nat.mod_lt _ (by decide)))
   ·rw [val_snoc, h1, val_take_succ B32 l m HLL.out, <- HX.out, HT.out, Nat.pow_succ]
    exact mulStep h3
   ·rw [<- set_append_drop h1 HLL.out]
    exact h4.store hlt _
  ·obtain rfl : m = n := by omega
   go_wp2
   go_ret
   obtain ⟨h1,h2,h3,h4⟩:=hI.out
   refine ⟨q,cc,rfl,?_,h2,hcc,?_⟩
   ·rw [List.drop_eq_nil_of_le (by rw [HL.out];omega),List.append_nil] at h4;exact h4
   ·rw [List.take_of_length_le (by rw [HL.out];omega)] at h3;exact h3
def bs (s : ByteArray) : List Nat:=s.data.toList.map UInt8.toNat
theorem bs_length (s : ByteArray) : (bs s).length = s.size:=by unfold bs;rw [List.length_map];rfl
theorem bs_get (s : ByteArray) (k : Nat) (h : k < s.size) : (bs s).getD k 0 = (s[k]'h).toNat:=by
 unfold bs
 rw [List.getD_eq_getElem?_getD,List.getElem?_map,List.getElem?_eq_getElem (show k < s.data.toList.length from h)]
 rfl
theorem bs_extract (s : ByteArray) (a : Nat) : bs (s.extract a s.size) = (bs s).drop a:=by
 unfold bs
 rw [Lib.extract_data,List.take_of_length_le (by rw [List.length_drop];exact Nat.le_refl _),List.map_drop]
theorem empty_iff (s : ByteArray) : s.toList.isEmpty = decide (s.size = 0):=by
 rw [Lib.toList_data]
 by_cases h : s.size = 0
 ·have : s.data.toList = [] := List.length_eq_zero_iff.1 h
  rw [this];simp [h]
 ·have : s.data.toList ≠ [] := fun e => h (by show s.data.toList.length = 0; rw [e]; rfl)
  simp only [h,decide_false]
  cases hl : s.data.toList with
  | nil=>exact absurd hl this
  | cons=>rfl
set_option maxHeartbeats 400000 in
theorem mulSmall_none (ao : Option Addr) (cap : Nat) (f d : Nat) (w : World) (hf : f < B32) (hd : d < B32) :
  Calls Tryz.prog 216 #[.slice ao 0 cap,.int .u32 f,.int .u32 d] w fun e w'=>e = .returned (.int .u32 (d : Nat)) /\ w' = w:=by
 unfold B32 at hf hd
 go_enter Tryz.func216,Tryz.ntmps216
 go_wp2
 go_loop [7,15] (fun c i=>c = .int .u64 d /\ i = .int .i64 0) (fun _ _=>0)
 case atStart=>exact ⟨rfl,rfl⟩
 case round =>
  obtain ⟨rfl,rfl⟩:=hrel
  go_wp2
  go_ret
  exact ⟨rfl,rfl⟩
def cutS : List Nat -> Bool × List Nat
 | []=>(false,[])
 | c :: r=>if c = 43 \/ c = 45 then (decide (c = 45),r) else (false,c :: r)
theorem cutS_len (l : List Nat) : (cutS l).2.length <= l.length:=by
 cases l with
 | nil=>simp [cutS]
 | cons c r=>by_cases h : c = 43 \/ c = 45 <;> simp [cutS,h]
set_option maxHeartbeats 800000 in
theorem cutSign_any (s : ByteArray) (w : World) (hs : s.size <= maxLen) :
  Calls Tryz.prog 208 #[.string s] w fun e w'=>∃ t,e = .returned (.tuple #[.bool (cutS (bs s)).1,.string t]) /\ bs t = (cutS (bs s)).2 /\ Below w.heap.size w w':=by
 unfold maxLen at hs
 by_cases h0 : s.size = 0
 ·have hem : s.toList.isEmpty = true := by rw [empty_iff]; simp [h0]
  have hnil : bs s = []:=List.length_eq_zero_iff.1 (by rw [bs_length];exact h0)
  have HN:=hid hnil
  clear hnil
  go_enter Tryz.func208,Tryz.ntmps208
  go_wp2
  go_ret2
  rw [HN.out]
  exact ⟨s,rfl,by rw [HN.out];rfl,Below.refl _ _⟩
 ·have hem : s.toList.isEmpty = false := by rw [empty_iff]; simp [h0]
  have hp : 0 < s.size:=by omega
  have hc0:=bs_get s 0 hp
  obtain ⟨c,r,hcr⟩ : ∃ c r,bs s = c :: r:=by
   cases h : bs s with
   | nil=>rw [<- bs_length,h] at hp;simp at hp
   | cons c r=>exact ⟨c,r,rfl⟩
  have hcc : c = (s[0]'hp).toNat:=by rw [<- hc0,hcr];rfl
  have HX : Hid (bs (s.extract 1 s.size) = r):=by unfold Hid;rw [bs_extract,hcr];rfl
  have HC:=hid hcr
  clear hc0 hcr
  by_cases h1 : c = 43
  ·have e1 : (((s[0]'hp).toNat : Int) == 43) = true := by rw [<- hcc, h1]; rfl
   have e2 : (((s[0]'hp).toNat : Int) == 45) = false:=by rw [<- hcc,h1];rfl
   have H1:=hid h1
   clear h1 hcc
   go_enter Tryz.func208,Tryz.ntmps208
   go_wp2
   go_quiet (fail)
   go_wp2
   go_ret2
   rw [HC.out,H1.out]
   exact ⟨s.extract 1 s.size,rfl,by rw [HX.out];rfl,Bd _ _⟩
  ·by_cases h2 : c = 45
   ·have e1 : (((s[0]'hp).toNat : Int) == 43) = false := by rw [<- hcc, h2]; rfl
    have e2 : (((s[0]'hp).toNat : Int) == 45) = true:=by rw [<- hcc,h2];rfl
    have H2:=hid h2
    clear h1 h2 hcc
    go_enter Tryz.func208,Tryz.ntmps208
    go_wp2
    go_quiet (fail)
    go_wp2
    go_ret2
    rw [HC.out,H2.out]
    exact ⟨s.extract 1 s.size,rfl,by rw [HX.out];rfl,Bd _ _⟩
   ·have e1 : (((s[0]'hp).toNat : Int) == 43) = false := by rw [<- hcc]; simp; omega
    have e2 : (((s[0]'hp).toNat : Int) == 45) = false:=by rw [<- hcc];simp;omega
    have H2 : Hid (cutS (c :: r) = (false,c :: r)):=by simp [Hid,cutS,h1,h2]
    clear h1 h2 hcc
    go_enter Tryz.func208,Tryz.ntmps208
    go_wp2
    go_ret2
    rw [HC.out,H2.out]
    exact ⟨s,rfl,HC.out,Below.refl _ _⟩
set_option maxHeartbeats 800000 in
theorem allDigits_any (s : ByteArray) (radix : Nat) (w : World) (hs : s.size <= maxLen) (hr : radix <= 36) :
  Calls Tryz.prog 209 #[.string s,.int .i64 radix] w fun e w'=>e = .returned (.bool ((bs s).all (fun c=>decide (dgt c < radix)) && decide (bs s ≠ []))) /\ w' = w:=by
 unfold maxLen at hs
 go_enter Tryz.func209,Tryz.ntmps209
 go_wp2
 go_loop [5] (fun i=>∃ k : Nat,k <= s.size /\ i = .int .i64 k /\ Hid (∀ j,j < k -> dgt ((bs s).getD j 0) < radix)) (fun i=>s.size - (intOf i).toNat)
 case atStart=>exact ⟨0,Nat.zero_le _,rfl,fun j hj=>absurd hj (Nat.not_lt_zero _)⟩
 case round =>
  obtain ⟨k,hk,rfl,hI⟩:=hrel
  by_cases hlt : k < s.size
  ·have hd := bs_get s k hlt
   obtain ⟨d,hdd⟩ : ∃ d,d = dgt (s[k]'hlt).toNat:=⟨_,rfl⟩
   have hd36 : d <= 36:=by rw [hdd];exact dgt_le _
   have HC : Hid (∀ wx,Calls Tryz.prog 215 #[.int .u8 ((s[k]'hlt).toNat : Nat)] wx fun e w'=>e = .returned (.int .i64 d) /\ w' = wx):=fun wx=>by rw [hdd];exact digitOf_any _ (s[k]'hlt).toNat_lt wx
   have HD : Hid (d = dgt ((bs s).getD k 0)):=by unfold Hid;rw [hd,hdd]
   clear hdd hd
   by_cases hdr : d < radix
   ·go_wp2_with (go_at_call 215; refine (HC.out _).mono ?_; rintro e w' ⟨rfl, rfl⟩)
    go_round
    case rel=>exact ⟨k + 1,by omega,by go_num,by
     intro j hj
     by_cases hjk : j < k
     ·exact hI.out j hjk
     ·obtain rfl : j = k := by omega
      rw [<- HD.out];exact hdr⟩
    case measure=>simp [intOf];omega
   ·go_wp2_with (go_at_call 215; refine (HC.out _).mono ?_; rintro e w' ⟨rfl, rfl⟩)
    go_ret
    refine ⟨ret_bool ?_,rfl⟩
    symm
    rw [Bool.and_eq_false_iff]
    left
    rw [List.all_eq_false]
    exact ⟨(bs s).getD k 0,getD_mem (by rw [bs_length];exact hlt),by simp;rw [<- List.getD_eq_getElem?_getD,<- HD.out];omega⟩
  ·obtain rfl : k = s.size := by omega
   have hem:=empty_iff s
   have HE : Hid (decide (bs s = []) = decide (s.size = 0)):=by
    unfold Hid
    rw [decide_eq_decide,<- bs_length];exact List.length_eq_zero_iff.symm
   have HA : Hid ((bs s).all (fun c=>decide (dgt c < radix)) = true):=by
    unfold Hid
    rw [List.all_eq_true]
    intro x hx
    obtain ⟨j,hj,rfl⟩:=List.mem_iff_getElem.1 hx
    have:=hI.out j (by rw [<- bs_length];exact hj)
    rw [List.getD_eq_getElem?_getD,List.getElem?_eq_getElem hj] at this
    simpa using this
   go_wp2
   go_ret
   refine ⟨ret_bool ?_,rfl⟩
   rw [HA.out,decide_eq_emptyBytes,empty_iff]
   simp only [ne_eq,decide_not,HE.out,Bool.true_and]
end Go.Proofs.YticimejfjjmikaaGreatDoor
