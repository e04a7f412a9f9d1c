import Derived.Test.YticimejfjjmikaaGreatDoorG9
import Derived.Maps.OwnSet
import Derived.DeepKeys4
import Derived.DeepKeys5
set_option linter.unusedVariables false
set_option linter.unusedSimpArgs false
namespace Go.Proofs.YticimejfjjmikaaGreatDoor
open Go.RowKit
def placeB (n : Nat) (p : Int) : Bool:=decide (0 <= p) && decide (p < n)
def placesB (l : List Int) (n : Nat) : Bool:=l.all (placeB n)
def nodeB (n : Nat) (d : Nd) : Bool:=decide (1 <= d.kind) && decide (d.kind <= 17) && numB d.kind d.num && textB d.kind d.text && countB d.kind d.kids.length && placesB d.kids n
def goodG (ns : List Nd) (rs : List Int) : Bool:=ns.all (nodeB ns.length) && placesB rs ns.length
theorem all_take_succ {α : Type} [Inhabited α] (p : α -> Bool) {l : List α} {k : Nat} (h : k < l.length) : (l.take (k + 1)).all p = ((l.take k).all p && p (l.getD k default)):=by
 rw [List.take_succ_eq_append_getElem h,List.all_append,List.getD_eq_getElem?_getD,List.getElem?_eq_getElem h];simp
theorem all_false {α : Type} (p : α -> Bool) {l : List α} {k : Nat} (h : (l.take k).all p = false) : l.all p = false:=by
 rw [List.all_eq_false] at h ⊢
 obtain ⟨x,hx,h2⟩:=h
 exact ⟨x,List.mem_of_mem_take hx,h2⟩
set_option maxHeartbeats 1000000 in
theorem arePlaces_any (ao : Option Addr) (n cap : Nat) (l : List Int) (nodes : Nat) (hnodes : nodes <= 1000000) (w : World) (R : IRow w ao n cap l) :
  Calls Tryz.prog 134 #[.slice ao n cap,.int .i64 nodes] w fun e w'=>e = .returned (.bool (placesB l nodes)) /\ w' = w:=by
 have HR:=hid R
 have hf:=R.fits
 have hm:=R.most
 unfold maxLen at hm
 clear R
 go_enter Tryz.func134,Tryz.ntmps134
 go_wp2
 go_loopw [9] (fun i wr=>∃ m : Nat,m <= n /\ i = .int .i64 m /\ Hid ((l.take m).all (placeB nodes) = true /\ wr = w)) (fun i _=>n - (intOf i).toNat)
 case atStart=>exact ⟨0,Nat.zero_le _,rfl,rfl,rfl⟩
 case round =>
  obtain ⟨m,hmn,rfl,hI⟩:=hrel
  by_cases hlt : m < n
  ·obtain ⟨b, o, rfl, hl, hc⟩ := HR.out.some (by omega)
   have hc1:=hc m hlt
   have hbd:=HR.out.get hlt
   obtain ⟨p,hp⟩ : ∃ p,p = l.getD m 0:=⟨_,rfl⟩
   rw [<- hp] at hc1 hbd
   obtain ⟨hb1,hb2⟩:=hbd
   have hw:=hI.out.2
   rw [<- hw] at hc1
   have hst : Hid ((l.take (m + 1)).all (placeB nodes) = placeB nodes p):=by
    unfold Hid
    rw [all_take_succ (placeB nodes) (by rw [HR.out.len];exact hlt),hI.out.1,Bool.true_and,hp];rfl
   have HW:=hid hw
   clear hc hp hI hw
   by_cases h1 : 0 <= p
   ·have e1 : decide (p < 0) = false := by simp; omega
    by_cases h2 : p < nodes
    ·go_wp2
     exact ⟨⟨m + 1,by omega,by go_num,by rw [hst.out];unfold placeB;rw [decide_eq_true h1,decide_eq_true h2];rfl,HW.out⟩,by simp [intOf] <;> omega⟩
    ·have e2 : decide ((nodes : Int) <= p) = true := by simp; omega
     go_wp2
     go_ret
     refine ⟨ret_b ?_,HW.out⟩
     have:=all_false (placeB nodes) (l:=l) (k:=m + 1) (by rw [hst.out];simp [placeB,h2])
     unfold placesB;rw [this]
   ·have e1 : decide (p < 0) = true := by simp; omega
    go_wp2
    go_ret
    refine ⟨ret_b ?_,HW.out⟩
    have:=all_false (placeB nodes) (l:=l) (k:=m + 1) (by rw [hst.out];simp [placeB];omega)
    unfold placesB;rw [this]
  ·obtain rfl : m = n := by omega
   go_wp2
   go_ret
   refine ⟨ret_b ?_,hI.out.2⟩
   have:=hI.out.1
   rw [List.take_of_length_le (by rw [HR.out.len];omega)] at this
   unfold placesB;rw [this]
theorem nodeB_eq (n : Nat) (k m : Int) (t : ByteArray) (l : List Int) : nodeB n ⟨k,m,t,l⟩ = (decide (1 <= k) && decide (k <= 17) && numB k m && textB k t && countB k l.length && placesB l n):=rfl
set_option maxHeartbeats 2000000 in
theorem goodNode_any (k m : Int) (t : ByteArray) (ak : Option Addr) (nk ck : Nat) (l : List Int) (nodes : Nat) (hnodes : nodes <= 1000000) (w : World) (R : IRow w ak nk ck l) (ht : t.size <= 1000000) (hT : Tabs w) :
  Calls Tryz.prog 133 #[NVal k m t ak nk ck,.int .i64 nodes] w fun e w'=>e = .returned (.bool (nodeB nodes ⟨k,m,t,l⟩)) /\ Below w.heap.size w w':=by
 rw [nodeB_eq,R.len]
 have hb:=Ba w (.cells #[.int .i64 k,.int .i64 m,.string t,.slice ak nk ck] 54)
 have hblk:=blk_new w #[.int .i64 k,.int .i64 m,.string t,.slice ak nk ck] 54
 have HR:=hid (R.below hb)
 have HT:=hid (hT.below hb)
 have hf:=R.fits
 have hmx:=R.most
 unfold maxLen at hmx
 unfold NVal
 clear R hT
 by_cases h1 : 1 <= k
 ·by_cases h2 : k <= 17
  ·go_enter Tryz.func133, Tryz.ntmps133
   go_wp2_with fail
   obtain ⟨g,hg⟩ : ∃ g,g = w.heap.size:=⟨_,rfl⟩
   rw [<- hg] at hblk
   rw [<- hg]
   generalize w.alloc (.cells #[.int .i64 k,.int .i64 m,.string t,.slice ak nk ck] 54) = W0 at *
   have c0 : W0.cell? ⟨g,0,none⟩ = some (.int .i64 k):=blk_cell hblk 0
   have c1 : W0.cell? ⟨g,1,none⟩ = some (.int .i64 m):=blk_cell hblk 1
   have c2 : W0.cell? ⟨g,2,none⟩ = some (.string t):=blk_cell hblk 2
   have c3 : W0.cell? ⟨g,3,none⟩ = some (.slice ak nk ck):=blk_cell hblk 3
   have hlt : g < W0.heap.size:=(Array.getElem?_eq_some_iff.1 hblk).1
   have HB:=hid hb
   clear hg hblk hb
   refine (goodNum_any k m _).mono ?_
   rintro e wz ⟨rfl,hwz⟩
   rw [hwz]
   clear hwz
   cases hnum : numB k m
   ·go_wp2_with fail
    go_ret
    exact ⟨ret_b (by simp [hnum]),HB.out⟩
   ·go_wp2_with fail
    refine (goodText_any k t _ ht HT.out).mono ?_
    rintro e w1 ⟨rfl,b1⟩
    have k0 : w1.cell? ⟨g,0,none⟩ = some (.int .i64 k):=(b1.cell (p:=⟨g,0,none⟩) hlt).trans c0
    have k3 : w1.cell? ⟨g,3,none⟩ = some (.slice ak nk ck):=(b1.cell (p:=⟨g,3,none⟩) hlt).trans c3
    have HR1:=hid (HR.out.below b1)
    have HB1:=hid (Bt HB.out b1)
    clear c0 c1 c2 c3 b1
    cases htx : textB k t
    ·go_wp2_with fail
     go_ret
     exact ⟨ret_b (by simp [htx]),HB1.out⟩
    ·go_wp2_with fail
     refine (goodCount_any k nk (by unfold maxLen;omega) _).mono ?_
     rintro e wz ⟨rfl,hwz⟩
     rw [hwz]
     clear hwz
     cases hcn : countB k nk
     ·go_wp2_with fail
      go_ret
      exact ⟨ret_b (by simp [hcn]),HB1.out⟩
     ·go_wp2_with fail
      refine (arePlaces_any ak nk ck l nodes hnodes _ HR1.out).mono ?_
      rintro e wz ⟨rfl,hwz⟩
      rw [hwz]
      clear hwz
      go_wp2_with fail
      go_ret
      exact ⟨ret_b (by simp [h1,h2,hnum,htx,hcn]),HB1.out⟩
  ·have e2 : decide (k <= 17) = false := by simp [h2]
   go_enter Tryz.func133,Tryz.ntmps133
   go_wp2_with fail
   go_ret
   exact ⟨ret_b (by simp [h2]),hb⟩
 ·have e1 : decide (1 <= k) = false := by simp [h1]
  go_enter Tryz.func133,Tryz.ntmps133
  go_wp2_with fail
  go_ret
  exact ⟨ret_b (by simp [h1]),hb⟩
def smallG (ns : List Nd) : Prop:=∀ d∈ns,d.text.size <= 2000
theorem smallG.get {ns : List Nd} (h : smallG ns) {i : Nat} (hi : i < ns.length) : (ns.getD i default).text.size <= 2000:=by
 rw [List.getD_eq_getElem?_getD,List.getElem?_eq_getElem hi];exact h _ (List.getElem_mem hi)
set_option maxHeartbeats 2000000 in
theorem good_g (an ar : Option Addr) (nn cn nr cr : Nat) (ns : List Nd) (rs : List Int) (w : World) (G : GIs w an nn cn ar nr cr ns rs) (hs : smallG ns) (hn : nn <= 2500) (hT : Tabs w) :
  Calls Tryz.prog 76 #[GVal an nn cn ar nr cr] w fun e w'=>e = .returned (.bool (goodG ns rs)) /\ Below w.heap.size w w':=by
 have HG:=hid G
 have HS:=hid hs
 have HT:=hid hT
 have hn1:=G.nodes.fits
 have hn2:=G.nodes.most
 have hr1:=G.roots.fits
 have hr2:=G.roots.most
 unfold maxLen at hn2 hr2
 unfold GVal
 have b1:=Ba w (.cells #[.slice an nn cn,.slice ar nr cr] 34)
 have x1:=GBox.new 34 w an ar nn cn nr cr
 clear G hs hT
 go_enter Tryz.func76,Tryz.ntmps76
 go_wp2_with fail
 obtain ⟨g,hg⟩ : ∃ g,g = w.heap.size:=⟨_,rfl⟩
 rw [<- hg] at x1
 rw [<- hg]
 generalize w.alloc (.cells #[.slice an nn cn,.slice ar nr cr] 34) = W1 at *
 have HGB:=hid x1
 have HB1:=hid b1
 have HG1:=hid (HG.out.below b1)
 have HT1:=hid (HT.out.below b1)
 clear b1 x1 hg HG HT
 go_loopw [8] (fun i wr=>∃ m : Nat,m <= nn /\ i = .int .i64 m /\ Hid ((ns.take m).all (nodeB nn) = true /\ Below W1.heap.size W1 wr)) (fun i _=>nn - (intOf i).toNat)
 case atStart=>exact ⟨0,Nat.zero_le _,rfl,rfl,Below.refl _ _⟩
 case round =>
  obtain ⟨m,hmn,rfl,hI⟩:=hrel
  have hbw:=hI.out.2
  obtain ⟨q0,q1⟩:=(HGB.out.on hbw).c
  by_cases hlt : m < nn
  ·have hlen : m < ns.length := by rw [HG1.out.nodes.len]; exact hlt
   obtain ⟨b,o,rfl,hl,hc⟩:=(HG1.out.nodes.below hbw).some (by omega)
   obtain ⟨k1,k2,k3,ak,nk,ck,k4,k5⟩:=hc m hlt
   have hok:=HG1.out.nodes.get hlt
   have hsm:=HS.out.get hlen
   have hst : Hid ((ns.take (m + 1)).all (nodeB nn) = nodeB nn (ns.getD m default)):=by
    unfold Hid
    rw [all_take_succ (nodeB nn) hlen,hI.out.1,Bool.true_and]
   clear hc
   generalize ns.getD m default = d at *
   obtain ⟨dk,dn,dt,dl⟩:=d
   simp only [] at k1 k2 k3 k5 hok hsm
   obtain ⟨⟨o1,o2⟩,⟨o3,o4⟩,o5⟩:=hok
   have ba:=Ba wr (.cells #[.int .i64 dk,.int .i64 dn,.string dt,.slice ak nk ck] 54)
   have HA:=hid ba
   have HK:=hid (k5.below ba)
   have HT2:=hid ((HT1.out.below hbw).below ba)
   have r0 : ∀ ob,(wr.alloc ob).cell? ⟨g,0,none⟩ = some (.slice (some ⟨b,o,none⟩) nn cn):=fun ob=>(cell_old _ _ _ _ (HGB.out.on hbw).lt).trans q0
   have HBW:=hid hbw
   clear k5 hbw hI ba o5
   go_wp2_with fail
   refine (goodNode_any dk dn dt ak nk ck dl nn (by omega) _ HK.out (by omega) HT2.out).mono ?_
   rintro e w2 ⟨rfl,b2⟩
   have HB2:=hid (Bt (Bt HBW.out HA.out) b2)
   clear b2 r0 q0 q1 k1 k2 k3 k4
   cases hnb : nodeB nn ⟨dk,dn,dt,dl⟩
   ·go_wp2_with fail
    go_ret
    refine ⟨ret_b ?_,Bt HB1.out HB2.out⟩
    have:=all_false (nodeB nn) (l:=ns) (k:=m + 1) (by rw [hst.out];exact hnb)
    unfold goodG
    rw [HG1.out.nodes.len,this];rfl
   ·go_wp2_with fail
    exact ⟨⟨m + 1,by omega,by go_num,by rw [hst.out];exact hnb,HB2.out⟩,by simp [intOf] <;> omega⟩
  ·obtain rfl : m = nn := by omega
   have HR:=hid (HG1.out.roots.below hbw)
   have HBW:=hid hbw
   have hal:=hid hI.out.1
   clear hbw hI
   go_wp2_with fail
   refine (arePlaces_any ar nr cr rs m (by omega) _ HR.out).mono ?_
   rintro e wz ⟨rfl,hwz⟩
   rw [hwz]
   clear hwz
   go_wp2_with fail
   go_ret
   refine ⟨ret_b ?_,Bt HB1.out HBW.out⟩
   unfold goodG
   have h:=hal.out
   rw [List.take_of_length_le (by rw [HG1.out.nodes.len];omega)] at h
   rw [HG1.out.nodes.len,h];rfl
set_option maxHeartbeats 4000000 in
theorem rgood_g (an ar : Option Addr) (nn cn nr cr : Nat) (ns : List Nd) (rs : List Int) (w : World) (G : GIs w an nn cn ar nr cr ns rs) (hs : smallG ns) (hn : nn <= 2500) :
  Calls Tryz.prog 12 #[GVal an nn cn ar nr cr] w fun e w'=>e = .returned (.bool (goodG ns rs)) /\ Below w.heap.size w w':=by
 have HG:=hid G
 have HS:=hid hs
 have hn1:=G.nodes.fits
 have hn2:=G.nodes.most
 have hr1:=G.roots.fits
 have hr2:=G.roots.most
 unfold maxLen at hn2 hr2
 unfold GVal
 have b1:=Ba w (.cells #[.slice an nn cn,.slice ar nr cr] 34)
 have x1:=GBox.new 34 w an ar nn cn nr cr
 clear G hs
 go_enter Tryz.func12,Tryz.ntmps12
 go_wp2_with fail
 obtain ⟨g,hg⟩ : ∃ g,g = w.heap.size:=⟨_,rfl⟩
 rw [<- hg] at x1
 rw [<- hg]
 generalize w.alloc (.cells #[.slice an nn cn,.slice ar nr cr] 34) = W1 at *
 have HGB:=hid x1
 have HB1:=hid b1
 have HG1:=hid (HG.out.below b1)
 clear b1 x1 hg HG
 go_loopw [3] (fun i wr=>∃ m : Nat,m <= nn /\ i = .int .i64 m /\ Hid ((ns.take m).all (nodeB nn) = true /\ Below W1.heap.size W1 wr)) (fun i _=>nn - (intOf i).toNat)
 case atStart=>exact ⟨0,Nat.zero_le _,rfl,rfl,Below.refl _ _⟩
 case round =>
  obtain ⟨m,hmn,rfl,hI⟩:=hrel
  have hbw:=hI.out.2
  obtain ⟨q0,q1⟩:=(HGB.out.on hbw).c
  by_cases hlt : m < nn
  ·have hlen : m < ns.length := by rw [HG1.out.nodes.len]; exact hlt
   obtain ⟨b,o,rfl,hl,hc⟩:=(HG1.out.nodes.below hbw).some (by omega)
   obtain ⟨k1,k2,k3,ak,nk,ck,k4,k5⟩:=hc m hlt
   have hok:=HG1.out.nodes.get hlt
   have hsm:=HS.out.get hlen
   have hst : Hid ((ns.take (m + 1)).all (nodeB nn) = nodeB nn (ns.getD m default)):=by
    unfold Hid
    rw [all_take_succ (nodeB nn) hlen,hI.out.1,Bool.true_and]
   clear hc
   generalize ns.getD m default = d at *
   obtain ⟨dk,dn,dt,dl⟩:=d
   simp only [] at k1 k2 k3 k5 hok hsm
   obtain ⟨⟨o1,o2⟩,⟨o3,o4⟩,o5⟩:=hok
   have hfk:=k5.fits
   have hmk:=k5.most
   have hlk:=k5.len
   rw [nodeB_eq,hlk] at hst
   have ba:=Ba wr (.cells #[.int .i64 dk,.int .i64 dn,.string dt,.slice ak nk ck] 54)
   have hbk:=blk_new wr #[.int .i64 dk,.int .i64 dn,.string dt,.slice ak nk ck] 54
   have HA:=hid ba
   have HBK:=hid hbk
   have HK:=hid (k5.below ba)
   have HBW:=hid hbw
   have HGW:=hid (HGB.out.on hbw)
   have bad : Hid ((decide (1 <= dk) && decide (dk <= 17) && numB dk dn && textB dk dt && countB dk nk && placesB dl nn) = false -> goodG ns rs = false):=by
    intro h
    have:=all_false (nodeB nn) (l:=ns) (k:=m + 1) (by rw [hst.out];exact h)
    unfold goodG
    rw [HG1.out.nodes.len,this];rfl
   clear k5 hbw hI ba o5 hbk hlk
   unfold maxLen at hmk
   by_cases h1 : 1 <= dk
   ·have e1 : decide (dk < 1) = false := by simp; omega
    by_cases h2 : dk <= 17
    ·have e2 : decide (17 < dk) = false := by simp; omega
     go_wp2_with fail
     obtain ⟨gx,hgx⟩ : ∃ gx,gx = wr.heap.size:=⟨_,rfl⟩
     rw [<- hgx] at HBK
     rw [<- hgx]
     have HGA:=hid (HGW.out.on HA.out)
     generalize wr.alloc (.cells #[.int .i64 dk,.int .i64 dn,.string dt,.slice ak nk ck] 54) = W2 at *
     have HB2:=hid (Bt HBW.out HA.out)
     clear hgx q0 q1 k1 k2 k3 k4 HA HGW HBW hl
     refine (rtext_any dk dn dt ak nk ck W2 (by omega)).mono ?_
     rintro e w3 ⟨rfl,b3⟩
     have HBK3:=hid ((b3.block gx (Array.getElem?_eq_some_iff.1 HBK.out).1).trans HBK.out)
     have HK3:=hid (HK.out.below b3)
     have HG3:=hid (HGA.out.on b3)
     have HB3:=hid (Bt HB2.out b3)
     clear b3 HBK HK HGA HB2
     cases htx : textB dk dt
     ·have hb := hid (bad.out (by simp [htx]))
      go_wp2_with fail
      go_ret
      exact ⟨ret_b hb.out.symm,Bt HB1.out HB3.out⟩
     ·have j0 : w3.cell? ⟨gx, 0, none⟩ = some (.int .i64 dk) := blk_cell HBK3.out 0
      have j1 : w3.cell? ⟨gx,1,none⟩ = some (.int .i64 dn):=blk_cell HBK3.out 1
      have j2 : w3.cell? ⟨gx,2,none⟩ = some (.string dt):=blk_cell HBK3.out 2
      have j3 : w3.cell? ⟨gx,3,none⟩ = some (.slice ak nk ck):=blk_cell HBK3.out 3
      go_wp2_with fail
      clear j0 j1 j2 j3
      refine (rnum_any dk dn dt ak nk ck w3).mono ?_
      rintro e w4 ⟨rfl,b4⟩
      have HBK4:=hid ((b4.block gx (Array.getElem?_eq_some_iff.1 HBK3.out).1).trans HBK3.out)
      have HK4:=hid (HK3.out.below b4)
      have HG4:=hid (HG3.out.on b4)
      have HB4:=hid (Bt HB3.out b4)
      clear b4 HBK3 HK3 HG3 HB3
      cases hnm : numB dk dn
      ·have hb := hid (bad.out (by simp [hnm]))
       go_wp2_with fail
       go_ret
       exact ⟨ret_b hb.out.symm,Bt HB1.out HB4.out⟩
      ·have j0 : w4.cell? ⟨gx, 0, none⟩ = some (.int .i64 dk) := blk_cell HBK4.out 0
       have j1 : w4.cell? ⟨gx,1,none⟩ = some (.int .i64 dn):=blk_cell HBK4.out 1
       have j2 : w4.cell? ⟨gx,2,none⟩ = some (.string dt):=blk_cell HBK4.out 2
       have j3 : w4.cell? ⟨gx,3,none⟩ = some (.slice ak nk ck):=blk_cell HBK4.out 3
       go_wp2_with fail
       clear j0 j1 j2 j3
       refine (rkids_any dk dn dt ak nk ck hfk (by unfold maxLen;omega) w4).mono ?_
       rintro e w5 ⟨rfl,b5⟩
       have HBK5:=hid ((b5.block gx (Array.getElem?_eq_some_iff.1 HBK4.out).1).trans HBK4.out)
       have HK5:=hid (HK4.out.below b5)
       have HG5:=hid (HG4.out.on b5)
       have HB5:=hid (Bt HB4.out b5)
       clear b5 HBK4 HK4 HG4 HB4
       cases hct : countB dk nk
       ·have hb := hid (bad.out (by simp [hct]))
        go_wp2_with fail
        go_ret
        exact ⟨ret_b hb.out.symm,Bt HB1.out HB5.out⟩
       ·have j3 : w5.cell? ⟨gx, 3, none⟩ = some (.slice ak nk ck) := blk_cell HBK5.out 3
        obtain ⟨z0,z1⟩:=HG5.out.c
        go_wp2_with fail
        go_loopw [5] (fun i wx=>∃ q : Nat,q <= nk /\ i = .int .i64 q /\ Hid ((dl.take q).all (placeB nn) = true /\ ∃ z,wx = w5.drewN z)) (fun i _=>nk - (intOf i).toNat)
        case atStart=>exact ⟨0,Nat.zero_le _,rfl,rfl,0,rfl⟩
        case round =>
         obtain ⟨q,hqk,rfl,hJ⟩:=hrel
         obtain ⟨z,hwx⟩:=hJ.out.2
         by_cases hq : q < nk
         ·obtain ⟨b', o', rfl, hl', hc'⟩ := HK5.out.some (by omega)
          have hc1:=hc' q hq
          have hbd:=HK5.out.get hq
          obtain ⟨p,hp⟩ : ∃ p,p = dl.getD q 0:=⟨_,rfl⟩
          rw [<- hp] at hc1 hbd
          obtain ⟨hb1,hb2⟩:=hbd
          have hst2 : Hid ((dl.take (q + 1)).all (placeB nn) = placeB nn p):=by
           unfold Hid
           rw [all_take_succ (placeB nn) (by rw [HK5.out.len];exact hq),hJ.out.1,Bool.true_and,hp];rfl
          have hpb : Hid (placeB nn p = false -> goodG ns rs = false):=fun h=>bad.out (by
           have h3 : placesB dl nn = false:=all_false (placeB nn) (l:=dl) (k:=q + 1) (by rw [hst2.out];exact h)
           simp [h3])
          rw [show w5.cell? = wr.cell? by rw [hwx];rfl] at hc1 j3 z0 z1
          have HWX:=hid hwx
          clear hc' hp hJ hwx
          by_cases h3 : 0 <= p
          ·have e3 : decide (p < 0) = false := by simp; omega
           by_cases h4 : p < nn
           ·have e4 : decide ((nn : Int) <= p) = false := by simp; omega
            have hpt : Hid (placeB nn p = true):=by unfold Hid placeB;simp [h3,h4]
            go_wp2_with fail
            go_quiet (fail)
            go_wp2_with fail
            exact ⟨⟨q + 1,by omega,by go_num,by rw [hst2.out];exact hpt.out,z + nq,by rw [HWX.out,World.drewN_drewN]⟩,by simp [intOf] <;> omega⟩
           ·have e4 : decide ((nn : Int) <= p) = true := by simp; omega
            have hb:=hid (hpb.out (by unfold placeB;simp [h4]))
            go_wp2_with fail
            go_quiet (fail)
            go_wp2_with fail
            go_ret
            exact ⟨ret_b hb.out.symm,by rw [HWX.out,World.drewN_drewN];exact Bt (Bt HB1.out HB5.out) (Bd _ _)⟩
          ·have e3 : decide (p < 0) = true := by simp; omega
           have hb:=hid (hpb.out (by unfold placeB;simp [h3]))
           go_wp2_with fail
           go_quiet (fail)
           go_wp2_with fail
           go_ret
           exact ⟨ret_b hb.out.symm,by rw [HWX.out,World.drewN_drewN];exact Bt (Bt HB1.out HB5.out) (Bd _ _)⟩
         ·obtain rfl : q = nk := by omega
          have hpl : Hid (placesB dl nn = true):=by
           have:=hJ.out.1
           rw [List.take_of_length_le (by rw [HK5.out.len];omega)] at this
           exact this
          rw [show w5.cell? = wr.cell? by rw [hwx];rfl] at j3 z0 z1
          have HWX:=hid hwx
          have hok2 : Hid ((ns.take (m + 1)).all (nodeB nn) = true):=by
           unfold Hid;rw [hst.out,htx,hnm,hct,hpl.out];simp [h1,h2]
          clear hJ hwx
          go_wp2_with fail
          exact ⟨⟨m + 1,by omega,by go_num,hok2.out,by rw [HWX.out];exact Bt HB5.out (Bd _ _)⟩,by simp [intOf] <;> omega⟩
    ·have e2 : decide (17 < dk) = true := by simp; omega
     have hb:=hid (bad.out (by simp [h2]))
     go_wp2_with fail
     go_ret
     exact ⟨ret_b hb.out.symm,Bt HB1.out (Bt HBW.out HA.out)⟩
   ·have e1 : decide (dk < 1) = true := by simp; omega
    have hb:=hid (bad.out (by simp [h1]))
    go_wp2_with fail
    go_ret
    exact ⟨ret_b hb.out.symm,Bt HB1.out (Bt HBW.out HA.out)⟩
  ·obtain rfl : m = nn := by omega
   have HR:=hid (HG1.out.roots.below hbw)
   have HBW:=hid hbw
   have hal:=hid hI.out.1
   have HGW:=hid (HGB.out.on hbw)
   clear hbw hI
   go_wp2_with fail
   obtain ⟨W5,hW5⟩ : ∃ W5,W5 = wr:=⟨_,rfl⟩
   rw [<- hW5] at q0 q1 HR HBW HGW ⊢
   clear hW5
   go_loopw [6] (fun i wx=>∃ q : Nat,q <= nr /\ i = .int .i64 q /\ Hid ((rs.take q).all (placeB m) = true /\ ∃ z,wx = W5.drewN z)) (fun i _=>nr - (intOf i).toNat)
   case atStart=>exact ⟨0,Nat.zero_le _,rfl,rfl,0,rfl⟩
   case round =>
    obtain ⟨q,hqk,rfl,hJ⟩:=hrel
    obtain ⟨z,hwx⟩:=hJ.out.2
    have hgd : Hid (goodG ns rs = placesB rs m):=by
     unfold Hid goodG
     have h:=hal.out
     rw [List.take_of_length_le (by rw [HG1.out.nodes.len];omega)] at h
     rw [HG1.out.nodes.len,h];rfl
    by_cases hq : q < nr
    ·obtain ⟨b', o', rfl, hl', hc'⟩ := HR.out.some (by omega)
     have hc1:=hc' q hq
     have hbd:=HR.out.get hq
     obtain ⟨p,hp⟩ : ∃ p,p = rs.getD q 0:=⟨_,rfl⟩
     rw [<- hp] at hc1 hbd
     obtain ⟨hb1,hb2⟩:=hbd
     have hst2 : Hid ((rs.take (q + 1)).all (placeB m) = placeB m p):=by
      unfold Hid
      rw [all_take_succ (placeB m) (by rw [HR.out.len];exact hq),hJ.out.1,Bool.true_and,hp];rfl
     have hpb : Hid (placeB m p = false -> goodG ns rs = false):=fun h=>by
      rw [hgd.out]
      exact all_false (placeB m) (l:=rs) (k:=q + 1) (by rw [hst2.out];exact h)
     rw [show W5.cell? = wr.cell? by rw [hwx];rfl] at hc1 q0 q1
     have HWX:=hid hwx
     clear hc' hp hJ hwx
     by_cases h3 : 0 <= p
     ·have e3 : decide (p < 0) = false := by simp; omega
      by_cases h4 : p < m
      ·have e4 : decide ((m : Int) <= p) = false := by simp; omega
       have hpt : Hid (placeB m p = true):=by unfold Hid placeB;simp [h3,h4]
       go_wp2_with fail
       go_quiet (fail)
       go_wp2_with fail
       exact ⟨⟨q + 1,by omega,by go_num,by rw [hst2.out];exact hpt.out,z + nq,by rw [HWX.out,World.drewN_drewN]⟩,by simp [intOf] <;> omega⟩
      ·have e4 : decide ((m : Int) <= p) = true := by simp; omega
       have hb:=hid (hpb.out (by unfold placeB;simp [h4]))
       go_wp2_with fail
       go_quiet (fail)
       go_wp2_with fail
       go_ret
       exact ⟨ret_b hb.out.symm,by rw [HWX.out,World.drewN_drewN];exact Bt (Bt HB1.out HBW.out) (Bd _ _)⟩
     ·have e3 : decide (p < 0) = true := by simp; omega
      have hb:=hid (hpb.out (by unfold placeB;simp [h3]))
      go_wp2_with fail
      go_quiet (fail)
      go_wp2_with fail
      go_ret
      exact ⟨ret_b hb.out.symm,by rw [HWX.out,World.drewN_drewN];exact Bt (Bt HB1.out HBW.out) (Bd _ _)⟩
    ·obtain rfl : q = nr := by omega
     have hpl : Hid (placesB rs m = true):=by
      have:=hJ.out.1
      rw [List.take_of_length_le (by rw [HR.out.len];omega)] at this
      exact this
     rw [show W5.cell? = wr.cell? by rw [hwx];rfl] at q0 q1
     have HWX:=hid hwx
     clear hJ hwx
     go_wp2_with fail
     go_ret
     exact ⟨ret_b (by rw [hgd.out,hpl.out]),by rw [HWX.out];exact Bt (Bt HB1.out HBW.out) (Bd _ _)⟩
def cz (l : List Int) : List Value:=l.map (Value.int .i64)
theorem cz_length (l : List Int) : (cz l).length = l.length:=by simp [cz]
theorem cz_append (l r : List Int) : cz (l ++ r) = cz l ++ cz r:=by simp [cz]
theorem cz_get {l : List Int} {j : Nat} (hj : j < l.length) : (cz l)[j]? = some (.int .i64 (l.getD j 0)):=by
 unfold cz
 rw [List.getElem?_map,List.getD_eq_getElem?_getD,List.getElem?_eq_getElem hj];rfl
theorem cz_set (l : List Int) (i : Nat) (z : Int) : (cz l).set i (.int .i64 z) = cz (l.set i z):=by
 unfold cz;rw [List.map_set]
def Blk (w : World) (g : Nat) (l : List Int) : Prop:=w.heap[g]? = some (.cells (cz l).toArray 3 (0,0))
theorem Blk.lt {w : World} {g : Nat} {l : List Int} (h : Blk w g l) : g < w.heap.size:=(Array.getElem?_eq_some_iff.1 h).1
theorem Blk.cell {w : World} {g : Nat} {l : List Int} (h : Blk w g l) {i : Nat} (hi : i < l.length) : w.cell? ⟨g,i,none⟩ = some (.int .i64 (l.getD i 0)):=by
 rw [blk_cell h];simp only [List.getElem?_toArray];exact cz_get hi
theorem Blk.free {w : World} {g : Nat} {l : List Int} (h : Blk w g l) (i : Nat) : w.frozen? ⟨g,i,none⟩ = false:=blk_free h i
theorem Blk.set {w : World} {g : Nat} {l : List Int} (h : Blk w g l) (i : Nat) (z : Int) : Blk (w.setCell ⟨g,i,none⟩ (.int .i64 z)) g (l.set i z):=by
 have:=blk_set (i:=i) h (.int .i64 z)
 unfold Blk
 rw [this]
 congr 2
 rw [<- cz_set];simp
theorem made_cz (N : Nat) : madeCells #[Value.int .i64 0] N = (cz (List.replicate N 0)).toArray:=by
 apply Array.ext
 ·rw [size_madeCells];simp [cz]
 ·intro i h1 h2
  simp [madeCells,cz,Nat.mod_one]
theorem law : Maps.Keyed Tryz.prog 223 :=
 Maps.Keyed.of_law (deep_law_laid (m:=2) (by kernel_rfl) (by omega) (of_decide_eq_true (by kernel_rfl)) (by kernel_rfl) (by rw [Tryz.underlying223]))
theorem zeroInt64 (w : World) : (zeroValue 3).run Tryz.prog w = .ok (.int .i64 0) w:=by kernel_rfl
def KVal (k n : Int) (t : ByteArray) : Value:=.agg #[.int .i64 k,.int .i64 n,.string t]
theorem cells_int : Tryz.prog.cellsOf 3 = 1:=by kernel_rfl
theorem cells_str : Tryz.prog.cellsOf 9 = 1:=by kernel_rfl
theorem cells_atom : Tryz.prog.cellsOf 223 = 3:=by kernel_rfl
theorem keyT : Tryz.prog.keyType 223 = true:=by kernel_rfl
theorem key_lits (d : Nat) (k n : Int) (t : ByteArray) (hk : I64 k) (hn : I64 n) (ht : t.size <= maxLen) : Tryz.prog.keyLits (d + 2) 223 [.int .i64 k,.int .i64 n,.string t] = some [.int .i64 k,.int .i64 n,.string t.data.toList]:=by
 have w1 : (Lit.int .i64 k).wf = true:=WalkArith.wf_i64 (by unfold I64 at hk;omega)
 have w2 : (Lit.int .i64 n).wf = true:=WalkArith.wf_i64 (by unfold I64 at hn;omega)
 simp [Program.keyLits,Tryz.underlying223,Tryz.underlying3,Tryz.underlying9,cells_int,cells_str,cells_atom,w1,w2,ht]
theorem key_of (k n : Int) (t : ByteArray) (hk : I64 k) (hn : I64 n) (ht : t.size <= maxLen) : ∃ kl,keyOf Tryz.prog 223 (KVal k n t) = some kl:=by
 unfold keyOf KVal
 rw [Tryz.underlying223]
 obtain ⟨d,hd⟩ : ∃ d,Tryz.prog.types.size = d + 1:=⟨Tryz.prog.types.size - 1,by have : 0 < Tryz.prog.types.size:=of_decide_eq_true (by kernel_rfl);omega⟩
 have hf : (Value.agg #[.int .i64 k,.int .i64 n,.string t]).formed Tryz.prog 223 = true:=by simp [Value.formed,Tryz.underlying223,cells_atom]
 simp only [keyT,hf,Bool.and_self,if_true,hd]
 have:=key_lits d k n t hk hn ht
 have e : (Value.agg #[.int .i64 k,.int .i64 n,.string t]).cells.toList = [.int .i64 k,.int .i64 n,.string t]:=rfl
 rw [e,show d + 1 + 1 = d + 2 from rfl,this]
 exact ⟨_,rfl⟩
theorem key_inj {k n k' n' : Int} {t t' : ByteArray} {kl : Lit} (h : keyOf Tryz.prog 223 (KVal k n t) = some kl) (h' : keyOf Tryz.prog 223 (KVal k' n' t') = some kl) : k = k' /\ n = n' /\ t = t':=by
 have:=law.inj h h'
 unfold KVal at this
 simp at this
 exact this
theorem info_int : (Tryz.prog.info? 3).map (fun i=>(i.zero,i.size,i.bytes)) = some (some (.int .i64 0),1,8):=by kernel_rfl
theorem lay4 (w : World) (o1 o2 o3 o4 : Obj) :
  ∀ W,W = ((((w.alloc o1).alloc o2).alloc o3).alloc o4).drew -> W.heap[w.heap.size + 1]? = some o2 /\ W.heap[w.heap.size + 1 + 1]? = some o3 /\ W.heap[w.heap.size + 1 + 1 + 1]? = some o4 /\ Below w.heap.size w W:=by
 rintro W rfl
 have hsz0:=size_alloc w o1
 have hsz1:=size_alloc (w.alloc o1) o2
 have hsz2:=size_alloc ((w.alloc o1).alloc o2) o3
 have bA:=Ba w o1
 have bB:=Ba (w.alloc o1) o2
 have bC:=Ba ((w.alloc o1).alloc o2) o3
 have bD:=Ba (((w.alloc o1).alloc o2).alloc o3) o4
 have h1 : ((w.alloc o1).alloc o2).heap[w.heap.size + 1]? = some o2:=by rw [<- hsz0];exact heap_alloc_new _ _
 have h2 : (((w.alloc o1).alloc o2).alloc o3).heap[w.heap.size + 1 + 1]? = some o3:=by rw [<- hsz0,<- hsz1];exact heap_alloc_new _ _
 have h3 : ((((w.alloc o1).alloc o2).alloc o3).alloc o4).drew.heap[w.heap.size + 1 + 1 + 1]? = some o4:=by rw [<- hsz0,<- hsz1,<- hsz2];exact heap_alloc_new _ _
 refine ⟨?_,?_,h3,Bt (Bt (Bt (Bt bA bB) bC) bD) (Bd _ 1)⟩
 ·exact (bD.block _ (by rw [hsz2,hsz1,hsz0];omega)).trans ((bC.block _ (by rw [hsz1,hsz0];omega)).trans h1)
 ·exact (bD.block _ (by rw [hsz2,hsz1,hsz0];omega)).trans h2
set_option maxHeartbeats 1000000 in
theorem newWalk_any (an ar : Option Addr) (nn cn nr cr : Nat) (hn : nn <= 2500) (hn1 : nn <= cn) (hn2 : cn <= 9223372036854775807) (w : World) :
  Calls Tryz.prog 77 #[GVal an nn cn ar nr cr] w fun e w'=>∃ B0 gp Bm,e = .returned (.pointer (some ⟨B0,0,none⟩)) /\ w.heap.size <= B0 /\ w.heap.size <= gp /\ w.heap.size <= Bm /\ B0 ≠ gp /\ B0 ≠ Bm /\ gp ≠ Bm /\
   w'.heap[B0]? = some (.cells #[.slice an nn cn,.slice ar nr cr,.slice (some ⟨gp,0,none⟩) nn nn,.slice none 0 0,.map (some Bm)] 194 (0,0)) /\ Blk w' gp (List.replicate nn (-1)) /\ w'.ownsMap (H:=Unit) Tryz.prog 223 (plainElem Tryz.prog 3) Bm 0 (.map []) /\ Below w.heap.size w w':=by
 have hmm:=@run_makeMap Tryz.prog
 have hmk:=fun wx=>run_make_row' (P:=Tryz.prog) 32 3 (.int .i64 0) 8 Tryz.underlying32 info_int rfl .i64 .i64 nn (by omega) (by omega) wx
 unfold GVal
 go_enter Tryz.func77,Tryz.ntmps77
 go_wp2
 go_region
 ·obtain ⟨h1, h2, h3, bF⟩ := lay4 w (.cells #[.slice an nn cn, .slice ar nr cr] 34) (.cells (madeCells #[.int .i64 0] nn) 3) (.map #[] 0) (.cells #[.slice an nn cn, .slice ar nr cr, .slice (some ⟨w.heap.size + 1, 0, none⟩) nn nn, .slice none 0 0, .map (some (w.heap.size + 1 + 1))] 194) _ rfl
  have hgp : Blk (((((w.alloc (.cells #[.slice an nn cn,.slice ar nr cr] 34)).alloc (.cells (madeCells #[.int .i64 0] nn) 3)).alloc (.map #[] 0)).alloc (.cells #[.slice an nn cn,.slice ar nr cr,.slice (some ⟨w.heap.size + 1,0,none⟩) nn nn,.slice none 0 0,.map (some (w.heap.size + 1 + 1))] 194)).drew) (w.heap.size + 1) (List.replicate nn 0):=by unfold Blk;rw [<- made_cz];exact h1
  have hbm : (((((w.alloc (.cells #[.slice an nn cn,.slice ar nr cr] 34)).alloc (.cells (madeCells #[.int .i64 0] nn) 3)).alloc (.map #[] 0)).alloc (.cells #[.slice an nn cn,.slice ar nr cr,.slice (some ⟨w.heap.size + 1,0,none⟩) nn nn,.slice none 0 0,.map (some (w.heap.size + 1 + 1))] 194)).drew).heap[w.heap.size + 1 + 1]? = some (.map #[] 0):=h2
  obtain ⟨B0,hB0⟩ : ∃ g,g = w.heap.size + 1 + 1 + 1:=⟨_,rfl⟩
  obtain ⟨gp,hgpe⟩ : ∃ g,g = w.heap.size + 1:=⟨_,rfl⟩
  obtain ⟨Bm,hBme⟩ : ∃ g,g = w.heap.size + 1 + 1:=⟨_,rfl⟩
  have hne : Hid (w.heap.size <= B0 /\ w.heap.size <= gp /\ w.heap.size <= Bm /\ B0 ≠ gp /\ B0 ≠ Bm /\ gp ≠ Bm):=by refine ⟨?_,?_,?_,?_,?_,?_⟩ <;> omega
  generalize hWW : ((((w.alloc (.cells #[.slice an nn cn,.slice ar nr cr] 34)).alloc (.cells (madeCells #[.int .i64 0] nn) 3)).alloc (.map #[] 0)).alloc (.cells #[.slice an nn cn,.slice ar nr cr,.slice (some ⟨w.heap.size + 1,0,none⟩) nn nn,.slice none 0 0,.map (some (w.heap.size + 1 + 1))] 194)).drew = W at *
  rw [<- hgpe] at hgp
  rw [<- hBme] at hbm
  rw [<- hB0,<- hBme,<- hgpe] at h3
  rw [<- hB0,<- hBme,<- hgpe]
  have HB:=hid bF
  have HGP:=hid hgp
  have HBM:=hid hbm
  have H3:=hid h3
  clear h1 h2 h3 bF hgp hbm hWW hB0 hgpe hBme hmm hmk
  have hc0 : W.cell? ⟨B0,2,none⟩ = some (.slice (some ⟨gp,0,none⟩) nn nn):=blk_cell H3.out 2
  go_wp2
  go_loopw [18] (fun i wr=>∃ m : Nat,m <= nn /\ i = .int .i64 m /\ Hid (Blk wr gp (List.replicate m (-1) ++ List.replicate (nn - m) 0) /\ (∀ b,b ≠ gp -> wr.heap[b]? = W.heap[b]?) /\ Below w.heap.size w wr)) (fun i _=>nn - (intOf i).toNat)
  case atStart=>exact ⟨0,Nat.zero_le _,rfl,by simpa using HGP.out,fun _ _=>rfl,HB.out⟩
  case round =>
   obtain ⟨m,hmn,rfl,hI⟩:=hrel
   have hw3:=(hI.out.2.1 B0 hne.out.2.2.2.1).trans H3.out
   have c2 : wr.cell? ⟨B0,2,none⟩ = some (.slice (some ⟨gp,0,none⟩) nn nn):=blk_cell hw3 2
   have HW3:=hid hw3
   clear hw3 hc0
   by_cases hlt : m < nn
   ·have hcc : wr.cell? ⟨gp, m, none⟩ = some (.int .i64 0) := by
     have:=hI.out.1.cell (i:=m) (by simp;omega)
     rw [List.getD_eq_getElem?_getD,List.getElem?_append_right (by simp),List.length_replicate,Nat.sub_self,show nn - m = (nn - m - 1) + 1 by omega,List.replicate_succ] at this
     simpa using this
    have hff : wr.frozen? ⟨gp,m,none⟩ = false:=hI.out.1.free m
    go_wp2
    refine ⟨⟨m + 1,by omega,by go_num,?_,fun b hb=>(Below.heap_setCell _ _ _ _ hb).trans (hI.out.2.1 b hb),hI.out.2.2.setCell (p:=⟨gp,m,none⟩) hne.out.2.1 _⟩,by simp [intOf] <;> omega⟩
    have:=hI.out.1.set m (-1)
    have e1 : (List.replicate m (-1 : Int) ++ List.replicate (nn - m) 0).set m (-1) = List.replicate (m + 1) (-1) ++ List.replicate (nn - (m + 1)) 0:=by
     rw [List.set_append,if_neg (by simp),show nn - m = (nn - (m + 1)) + 1 by omega,List.replicate_succ (n:=nn - (m + 1))]
     simp [List.replicate_succ',List.append_assoc]
    rw [e1] at this
    exact this
   ·obtain rfl : m = nn := by omega
    go_wp2
    go_ret
    obtain ⟨n1,n2,n3,n4,n5,n6⟩:=hne.out
    refine ⟨B0,gp,Bm,rfl,n1,n2,n3,n4,n5,n6,HW3.out,?_,?_,hI.out.2.2⟩
    ·have := hI.out.1
     rwa [Nat.sub_self,List.replicate_zero,List.append_nil] at this
    ·have hb := (hI.out.2.1 Bm (fun e => n6 e.symm)).trans HBM.out
     exact ⟨#[],0,hb,⟨by simp,MapKept.stamped_empty 0,by simp⟩,Nat.le_refl _,rfl⟩
 ·obtain ⟨h1, h2, h3, bF⟩ := lay4 w (.cells #[.slice an nn cn, .slice ar nr cr] 34) (.map #[] 0) (.cells (madeCells #[.int .i64 0] nn) 3) (.cells #[.slice an nn cn, .slice ar nr cr, .slice (some ⟨w.heap.size + 1 + 1, 0, none⟩) nn nn, .slice none 0 0, .map (some (w.heap.size + 1))] 194) _ rfl
  have hgp : Blk (((((w.alloc (.cells #[.slice an nn cn,.slice ar nr cr] 34)).alloc (.map #[] 0)).alloc (.cells (madeCells #[.int .i64 0] nn) 3)).alloc (.cells #[.slice an nn cn,.slice ar nr cr,.slice (some ⟨w.heap.size + 1 + 1,0,none⟩) nn nn,.slice none 0 0,.map (some (w.heap.size + 1))] 194)).drew) (w.heap.size + 1 + 1) (List.replicate nn 0):=by unfold Blk;rw [<- made_cz];exact h2
  have hbm : (((((w.alloc (.cells #[.slice an nn cn,.slice ar nr cr] 34)).alloc (.map #[] 0)).alloc (.cells (madeCells #[.int .i64 0] nn) 3)).alloc (.cells #[.slice an nn cn,.slice ar nr cr,.slice (some ⟨w.heap.size + 1 + 1,0,none⟩) nn nn,.slice none 0 0,.map (some (w.heap.size + 1))] 194)).drew).heap[w.heap.size + 1]? = some (.map #[] 0):=h1
  obtain ⟨B0,hB0⟩ : ∃ g,g = w.heap.size + 1 + 1 + 1:=⟨_,rfl⟩
  obtain ⟨gp,hgpe⟩ : ∃ g,g = w.heap.size + 1 + 1:=⟨_,rfl⟩
  obtain ⟨Bm,hBme⟩ : ∃ g,g = w.heap.size + 1:=⟨_,rfl⟩
  have hne : Hid (w.heap.size <= B0 /\ w.heap.size <= gp /\ w.heap.size <= Bm /\ B0 ≠ gp /\ B0 ≠ Bm /\ gp ≠ Bm):=by refine ⟨?_,?_,?_,?_,?_,?_⟩ <;> omega
  generalize hWW : ((((w.alloc (.cells #[.slice an nn cn,.slice ar nr cr] 34)).alloc (.map #[] 0)).alloc (.cells (madeCells #[.int .i64 0] nn) 3)).alloc (.cells #[.slice an nn cn,.slice ar nr cr,.slice (some ⟨w.heap.size + 1 + 1,0,none⟩) nn nn,.slice none 0 0,.map (some (w.heap.size + 1))] 194)).drew = W at *
  rw [<- hgpe] at hgp
  rw [<- hBme] at hbm
  rw [<- hB0,<- hgpe,<- hBme] at h3
  rw [<- hB0,<- hgpe,<- hBme]
  have HB:=hid bF
  have HGP:=hid hgp
  have HBM:=hid hbm
  have H3:=hid h3
  clear h1 h2 h3 bF hgp hbm hWW hB0 hgpe hBme hmm hmk
  have hc0 : W.cell? ⟨B0,2,none⟩ = some (.slice (some ⟨gp,0,none⟩) nn nn):=blk_cell H3.out 2
  go_wp2
  go_loopw [18] (fun i wr=>∃ m : Nat,m <= nn /\ i = .int .i64 m /\ Hid (Blk wr gp (List.replicate m (-1) ++ List.replicate (nn - m) 0) /\ (∀ b,b ≠ gp -> wr.heap[b]? = W.heap[b]?) /\ Below w.heap.size w wr)) (fun i _=>nn - (intOf i).toNat)
  case atStart=>exact ⟨0,Nat.zero_le _,rfl,by simpa using HGP.out,fun _ _=>rfl,HB.out⟩
  case round =>
   obtain ⟨m,hmn,rfl,hI⟩:=hrel
   have hw3:=(hI.out.2.1 B0 hne.out.2.2.2.1).trans H3.out
   have c2 : wr.cell? ⟨B0,2,none⟩ = some (.slice (some ⟨gp,0,none⟩) nn nn):=blk_cell hw3 2
   have HW3:=hid hw3
   clear hw3 hc0
   by_cases hlt : m < nn
   ·have hcc : wr.cell? ⟨gp, m, none⟩ = some (.int .i64 0) := by
     have:=hI.out.1.cell (i:=m) (by simp;omega)
     rw [List.getD_eq_getElem?_getD,List.getElem?_append_right (by simp),List.length_replicate,Nat.sub_self,show nn - m = (nn - m - 1) + 1 by omega,List.replicate_succ] at this
     simpa using this
    have hff : wr.frozen? ⟨gp,m,none⟩ = false:=hI.out.1.free m
    go_wp2
    refine ⟨⟨m + 1,by omega,by go_num,?_,fun b hb=>(Below.heap_setCell _ _ _ _ hb).trans (hI.out.2.1 b hb),hI.out.2.2.setCell (p:=⟨gp,m,none⟩) hne.out.2.1 _⟩,by simp [intOf] <;> omega⟩
    have:=hI.out.1.set m (-1)
    have e1 : (List.replicate m (-1 : Int) ++ List.replicate (nn - m) 0).set m (-1) = List.replicate (m + 1) (-1) ++ List.replicate (nn - (m + 1)) 0:=by
     rw [List.set_append,if_neg (by simp),show nn - m = (nn - (m + 1)) + 1 by omega,List.replicate_succ (n:=nn - (m + 1))]
     simp [List.replicate_succ',List.append_assoc]
    rw [e1] at this
    exact this
   ·obtain rfl : m = nn := by omega
    go_wp2
    go_ret
    obtain ⟨n1,n2,n3,n4,n5,n6⟩:=hne.out
    refine ⟨B0,gp,Bm,rfl,n1,n2,n3,n4,n5,n6,HW3.out,?_,?_,hI.out.2.2⟩
    ·have := hI.out.1
     rwa [Nat.sub_self,List.replicate_zero,List.append_nil] at this
    ·have hb := (hI.out.2.1 Bm (fun e => n6 e.symm)).trans HBM.out
     exact ⟨#[],0,hb,⟨by simp,MapKept.stamped_empty 0,by simp⟩,Nat.le_refl _,rfl⟩
end Go.Proofs.YticimejfjjmikaaGreatDoor
