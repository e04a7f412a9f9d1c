import Derived.Test.YticimejfjjmikaaGreatDoorSL6
import Derived.Test.YticimejfjjmikaaGreatDoorSG6
import Derived.Shelf.LaysM
import Derived.Shelf.Strconv.Itoa4
import Derived.Shelf.Strconv.Clone
import Derived.Test.YticimejfjjmikaaGreatDoorProg
import Derived.Test.YticimejfjjmikaaGreatDoorSL3
import Derived.Test.YticimejfjjmikaaGreatDoorQ3
import Derived.Test.YticimejfjjmikaaGreatDoorC3
import Derived.Maps.OwnSet
import Derived.WalkSpells
import Derived.Lib.SmallJoins
set_option linter.unusedVariables false
set_option linter.unusedSimpArgs false
set_option maxRecDepth 100000
namespace Go.Proofs.YticimejfjjmikaaGreatDoor
open Go.RowKit
def layB (ns : List Nd) (rs : List Int) : Bool:=goodG ns rs && (canonN ns rs).1.all (fun d=>decide (0 <= sizeN d))
def LayableP (ns : List Nd) (rs : List Int) (w : World) (e : Ending) (w' : World) : Prop :=
 if layB ns rs = true then ∃ a1 n1 c1 a2 n2 c2,e = .returned (.tuple #[GVal a1 n1 c1 a2 n2 c2,.bool true]) /\ GIs w' a1 n1 c1 a2 n2 c2 (canonN ns rs).1 (canonN ns rs).2 /\ GKeep w.heap.size w' a1 n1 c1 a2 n2 c2 (canonN ns rs).1 (canonN ns rs).2 /\ Below w.heap.size w w'
 else e = .returned (.tuple #[.agg #[.slice none 0 0,.slice none 0 0],.bool false]) /\ Below w.heap.size w w'
theorem LayableP.no {ns : List Nd} {rs : List Int} {w w' : World} (h : layB ns rs = false) (hb : Below w.heap.size w w') : LayableP ns rs w (.returned (.tuple #[.agg #[.slice none 0 0,.slice none 0 0],.bool false])) w':=by
 unfold LayableP;rw [if_neg (by rw [h];decide)];exact ⟨rfl,hb⟩
set_option maxHeartbeats 8000000 in
theorem playable_any (an ar : Option Addr) (nn cn nr cr : Nat) (ns : List Nd) (rs : List Int) (w : World) (G : GOk w an nn cn ar nr cr ns rs) (hn : nn <= 100) (hT : Tabs w) :
  Calls Tryz.prog 84 #[GVal an nn cn ar nr cr] w (LayableP ns rs w):=by
 have HG:=hid G
 have HT:=hid hT
 have hlen : ns.length = nn:=G.is.nodes.len
 have HCN : Hid (goodG ns rs = true -> (∀ d∈(canonN ns rs).1,CNd d) /\ (canonN ns rs).1.length <= 100 /\ (canonN ns rs).2.length = rs.length /\ goodG (canonN ns rs).1 (canonN ns rs).2 = true):=fun h=>canon_nodes h G.small G.kids (by omega)
 have f1:=G.is.nodes.fits
 have f2:=G.is.nodes.most
 have f3:=G.is.roots.fits
 have f4:=G.is.roots.most
 unfold maxLen at f2 f4
 have bA:=Bt (Ba w (.cells #[.slice an nn cn,.slice ar nr cr] 34)) (Ba (w.alloc (.cells #[.slice an nn cn,.slice ar nr cr] 34)) (.cells #[.slice none 0 0,.slice none 0 0] 34))
 have x1:=(GBox.new 34 w an ar nn cn nr cr).on (Ba (w.alloc (.cells #[.slice an nn cn,.slice ar nr cr] 34)) (.cells #[.slice none 0 0,.slice none 0 0] 34))
 have x2:=GBox.new 34 (w.alloc (.cells #[.slice an nn cn,.slice ar nr cr] 34)) none none 0 0 0 0
 have hsz : ((w.alloc (.cells #[.slice an nn cn,.slice ar nr cr] 34)).alloc (.cells #[.slice none 0 0,.slice none 0 0] 34)).heap.size = w.heap.size + 1 + 1:=by rw [size_alloc,size_alloc]
 rw [size_alloc] at x2
 obtain ⟨z1,z2⟩:=x1.c
 unfold GVal
 clear G hT
 go_enter Tryz.func84,Tryz.ntmps84
 go_wp2_with fail
 clear z1 z2
 generalize (w.alloc (.cells #[.slice an nn cn,.slice ar nr cr] 34)).alloc (.cells #[.slice none 0 0,.slice none 0 0] 34) = W1 at *
 obtain ⟨gb,hgb⟩ : ∃ g,g = w.heap.size:=⟨_,rfl⟩
 obtain ⟨gr,hgr⟩ : ∃ g,g = w.heap.size + 1:=⟨_,rfl⟩
 rw [<- hgr] at x2
 rw [<- hgb] at x1
 rw [<- hgr,<- hgb]
 have hne : Hid (gb ≠ gr /\ w.heap.size <= gb /\ w.heap.size <= gr /\ gb < W1.heap.size /\ gr < W1.heap.size):=by refine ⟨?_,?_,?_,?_,?_⟩ <;> omega
 refine (good_g an ar nn cn nr cr ns rs W1 (HG.out.is.below bA) HG.out.small (by omega) (HT.out.below bA)).mono ?_
 rintro e w2 ⟨rfl,b2⟩
 have y1:=x1.on b2
 have y2:=x2.on b2
 have HB2:=hid (bA.trans (b2.mono bA.size))
 have HW12:=hid b2.size
 have Y2:=hid y2
 obtain ⟨z1,z2⟩:=y1.c
 obtain ⟨v1,v2⟩:=y2.c
 have fv1 : w2.frozen? ⟨gr,0,none⟩ = false:=blk_free y2 0
 have fv2 : w2.frozen? ⟨gr,1,none⟩ = false:=blk_free y2 1
 have hsw : Hid (w.heap.size <= w2.heap.size):=HB2.out.size
 clear bA x1 x2 hsz hgb hgr b2 y1 y2
 have fin : Hid (∀ (wz : World),Below w2.heap.size w2 wz -> layB ns rs = false -> LayableP ns rs w (.returned (.tuple #[.agg #[.slice none 0 0,.slice none 0 0],.bool false])) ((wz.setCell ⟨gr,0,none⟩ (.slice none 0 0)).setCell ⟨gr,1,none⟩ (.slice none 0 0)) /\ ((wz.setCell ⟨gr,0,none⟩ (.slice none 0 0)).setCell ⟨gr,1,none⟩ (.slice none 0 0)).heap[gr]? = some (.cells #[.slice none 0 0,.slice none 0 0] 34 (0,0))):=fun wz hb hl=>by
  have hz:=(hb.block gr (Nat.lt_of_lt_of_le hne.out.2.2.2.2 HW12.out)).trans Y2.out
  exact ⟨LayableP.no hl (store2_below (HB2.out.trans (hb.mono HB2.out.size)) hne.out.2.2.1),store2 hz⟩
 obtain ⟨gd,hgd⟩ : ∃ gd,gd = goodG ns rs:=⟨_,rfl⟩
 rw [<- hgd]
 have HGD:=hid hgd
 cases gd
 ·clear hgd
  obtain ⟨q1,q2⟩:=fin.out w2 (Below.refl _ _) (by unfold layB;rw [<- HGD.out];rfl)
  have r0:=blk_cell q2 0
  have r1:=blk_cell q2 1
  have Q1:=hid q1
  clear q1 q2
  go_wp2_with fail
  (try simp only [Exit.inBlock,Exit.then]);refine bodyPost_ret (by simp [results,Tryz.results84,go_sem,r0,r1];rfl) rfl ?_
  exact Q1.out
 ·clear hgd
  obtain ⟨cnd,cl,crl,cgd⟩:=HCN.out HGD.out.symm
  have C2:=hid (canon_own an ar nn cn nr cr ns rs w2 (HG.out.is.below HB2.out) HG.out.small HG.out.kids (by omega) HG.out.nr_le (HT.out.below HB2.out) 300001 (by omega) (by omega))
  have HLB : Hid (layB ns rs = (canonN ns rs).1.all (fun d=>decide (0 <= sizeN d))):=by unfold Hid layB;rw [<- HGD.out];rfl
  have ec : canonG ns rs 300001 = canonN ns rs:=rfl
  rw [ec] at C2
  obtain ⟨cs,hcs⟩ : ∃ c,c = (canonN ns rs).1:=⟨_,rfl⟩
  obtain ⟨crs,hcrs⟩ : ∃ c,c = (canonN ns rs).2:=⟨_,rfl⟩
  rw [<- hcs] at C2 HLB cnd cl
  rw [<- hcrs] at C2
  have HCND:=hid cnd
  have HCS:=hid hcs
  have HCRS:=hid hcrs
  unfold GVal at C2
  clear HCN cnd crl cgd hcs hcrs ec
  go_wp2_with (go_at_call 40;(with_reducible refine C2.out.mono ?_);rintro e w3 ⟨a1,n1,c1,a2,n2,c2,rfl,g3,gk3,b3⟩;have h1:=g3.nodes.fits;have h2:=g3.nodes.most;have h3:=g3.roots.fits;have h4:=g3.roots.most;have h5:=g3.nodes.len;have HB3:=hid (Bt b3 (Ba w3 (.cells #[.slice a1 n1 c1,.slice a2 n2 c2] 34)));have HS3:=hid b3.size;have HN3:=hid (g3.nodes.below (Ba w3 (.cells #[.slice a1 n1 c1,.slice a2 n2 c2] 34)));have HGK:=hid gk3;have hx3:=GBox.new 34 w3 a1 a2 n1 c1 n2 c2;have HX3:=hid hx3;obtain ⟨d0,d1⟩:=hx3.c;clear b3 g3 gk3 hx3 z1 z2)
  unfold maxLen at h2 h4
  obtain ⟨W3,hW3⟩ : ∃ W,W = w3.alloc (.cells #[.slice a1 n1 c1,.slice a2 n2 c2] 34):=⟨_,rfl⟩
  obtain ⟨gc,hgc⟩ : ∃ g,g = w3.heap.size:=⟨_,rfl⟩
  have hsz3 : Hid (W3.heap.size = w3.heap.size + 1):=by unfold Hid;rw [hW3,size_alloc]
  have hblk3 : Hid (∀ b,b < w3.heap.size -> W3.heap[b]? = w3.heap[b]?):=fun b hb=>by rw [hW3];exact (Ba w3 _).block b hb
  rw [<- hW3] at HB3 HN3 HX3 ⊢
  rw [<- hgc] at HX3 ⊢
  clear d0 d1 hW3 hgc v1 v2 fv1 fv2
  go_loopw [6,16] (fun _ i wr=>∃ q : Nat,q <= n1 /\ i = .int .i64 q /\ Hid ((cs.take q).all (fun d=>decide (0 <= sizeN d)) = true /\ Below W3.heap.size W3 wr)) (fun _ i _=>n1 - (intOf i).toNat)
  case atStart=>exact ⟨0,Nat.zero_le _,rfl,rfl,Below.refl _ _⟩
  case round =>
   obtain ⟨q,hq,rfl,hI⟩:=hrel
   have HA:=hid hI.out.1
   have HBQ:=hid hI.out.2
   have hx4:=HX3.out.on HBQ.out
   have HX4:=hid hx4
   have HBW:=hid (HB3.out.trans (HBQ.out.mono HB3.out.size))
   clear hI
   by_cases hlt : q < n1
   ·have hql : q < cs.length := by omega
    obtain ⟨b,o,rfl,hlb,hc⟩:=(HN3.out.below HBQ.out).some (by omega)
    obtain ⟨k1,k2,k3,ak,nk,ck,k4,k5⟩:=hc q hlt
    have hm : cs.getD q default∈cs:=by rw [List.getD_eq_getElem?_getD,List.getElem?_eq_getElem hql];exact List.getElem_mem _
    have hd:=HCND.out _ hm
    have hkd:=hd.kind
    have hneg:=size_neg hd
    have HTA:=hid (all_take_succ (fun d=>decide (0 <= sizeN d)) hql)
    rw [HA.out] at HTA
    obtain ⟨d,hdd⟩ : ∃ d,d = cs.getD q default:=⟨_,rfl⟩
    rw [<- hdd] at k1 k2 k3 hneg HTA hkd
    have HNG:=hid hneg
    have hbad : Hid (¬ 0 <= sizeN d -> cs.all (fun d=>decide (0 <= sizeN d)) = false):=fun h=>all_false _ (k:=q + 1) (by rw [HTA.out,decide_eq_false h];rfl)
    obtain ⟨dk,dn,dt,dl⟩:=d
    simp only at k1 k2 k3 hkd
    have hx:=blk_new wr #[.int .i64 dk,.int .i64 dn,.string dt,.slice ak nk ck] 54
    have b0 : (wr.alloc (.cells #[.int .i64 dk,.int .i64 dn,.string dt,.slice ak nk ck] 54)).cell? ⟨wr.heap.size,0,none⟩ = some (.int .i64 dk):=blk_cell hx 0
    have HBN:=hid (Ba wr (.cells #[.int .i64 dk,.int .i64 dn,.string dt,.slice ak nk ck] 54))
    clear hc hm hd hdd k5 hneg hx hx4
    by_cases hk : 11 < dk
    ·have hsn : Hid (¬ 0 <= sizeN ⟨dk, dn, dt, dl⟩) := by have := HNG.out.2 hk; unfold Hid; omega
     have e9 : decide (9 < dk) = true:=by simp;omega
     have e10 : (dk != 10) = true:=by simp;omega
     have e11 : (dk != 11) = true:=by simp;omega
     have hbz:=HBW.out.trans (HBN.out.mono HBW.out.size)
     have hz:=(hbz.block gr (Nat.lt_of_lt_of_le hne.out.2.2.2.2 HW12.out)).trans Y2.out
     have v1 : (wr.alloc (.cells #[.int .i64 dk,.int .i64 dn,.string dt,.slice ak nk ck] 54)).cell? ⟨gr,0,none⟩ = some (.slice none 0 0):=blk_cell hz 0
     have v2 : (wr.alloc (.cells #[.int .i64 dk,.int .i64 dn,.string dt,.slice ak nk ck] 54)).cell? ⟨gr,1,none⟩ = some (.slice none 0 0):=blk_cell hz 1
     have fv1 : (wr.alloc (.cells #[.int .i64 dk,.int .i64 dn,.string dt,.slice ak nk ck] 54)).frozen? ⟨gr,0,none⟩ = false:=blk_free hz 0
     have fv2 : (wr.alloc (.cells #[.int .i64 dk,.int .i64 dn,.string dt,.slice ak nk ck] 54)).frozen? ⟨gr,1,none⟩ = false:=blk_free hz 1
     obtain ⟨q1,q2⟩:=fin.out _ hbz (by rw [HLB.out];exact hbad.out hsn.out)
     have r0:=blk_cell q2 0
     have r1:=blk_cell q2 1
     have Q1:=hid q1
     clear q1 q2 hz hbz
     go_wp2_with fail
     (try simp only [Exit.inBlock,Exit.then]);refine bodyPost_ret (by simp [results,Tryz.results84,go_sem,r0,r1];rfl) rfl ?_
     exact Q1.out
    ·have hok : Hid ((cs.take (q + 1)).all (fun d => decide (0 <= sizeN d)) = true) := by
      unfold Hid
      rw [HTA.out]
      have:=mt HNG.out.1 hk
      rw [decide_eq_true (by omega)];rfl
     have HE:=hid (HBQ.out.trans (HBN.out.mono HBQ.out.size))
     by_cases k9 : 9 < dk
     ·have e9 : decide (9 < dk) = true := decide_eq_true k9
      by_cases k10 : dk = 10
      ·subst k10
       go_wp2_with fail
       exact ⟨⟨q + 1,by omega,by go_num,hok.out,HE.out⟩,by simp [intOf] <;> omega⟩
      ·obtain rfl : dk = 11 := by omega
       go_wp2_with fail
       exact ⟨⟨q + 1,by omega,by go_num,hok.out,HE.out⟩,by simp [intOf] <;> omega⟩
     ·have e9 : decide (9 < dk) = false := decide_eq_false k9
      go_wp2_with fail
      exact ⟨⟨q + 1,by omega,by go_num,hok.out,HE.out⟩,by simp [intOf] <;> omega⟩
   ·obtain rfl : q = n1 := by omega
    have hall:=HA.out
    rw [List.take_of_length_le (by omega)] at hall
    have HALL:=hid hall
    obtain ⟨d0,d1⟩:=hx4.c
    have hz:=(HBW.out.block gr (Nat.lt_of_lt_of_le hne.out.2.2.2.2 HW12.out)).trans Y2.out
    have v1 : wr.cell? ⟨gr,0,none⟩ = some (.slice none 0 0):=blk_cell hz 0
    have v2 : wr.cell? ⟨gr,1,none⟩ = some (.slice none 0 0):=blk_cell hz 1
    have fv1 : wr.frozen? ⟨gr,0,none⟩ = false:=blk_free hz 0
    have fv2 : wr.frozen? ⟨gr,1,none⟩ = false:=blk_free hz 1
    have hst:=store2 (v1:=.slice a1 q c1) (v2:=.slice a2 n2 c2) hz
    have r0:=blk_cell hst 0
    have r1:=blk_cell hst 1
    clear hall hx4 hz hst
    go_wp2_with fail
    (try simp only [Exit.inBlock,Exit.then]);refine bodyPost_ret (by simp [results,Tryz.results84,go_sem,r0,r1];rfl) rfl ?_
    have hss : ((wr.setCell ⟨gr,0,none⟩ (.slice a1 q c1)).setCell ⟨gr,1,none⟩ (.slice a2 n2 c2)).heap.size = wr.heap.size:=by simp [World.setCell]
    have s3:=hsz3.out
    have s4:=HBQ.out.size
    have s5:=HS3.out
    have key : ∀ wz : World,wr.heap.size <= wz.heap.size -> (∀ b,w2.heap.size <= b -> b < wr.heap.size -> wz.heap[b]? = wr.heap[b]?) -> GIs wz a1 q c1 a2 n2 c2 cs crs:=fun wz hz1 hz2=>by
     refine HGK.out wz (by omega) (fun b e1 e2=>?_)
     rw [hz2 b e1 (by omega),HBQ.out.block b (by omega),hblk3.out b e2]
    unfold LayableP
    rw [if_pos (by rw [HLB.out];exact HALL.out),<- HCS.out,<- HCRS.out]
    have hgr2 : gr < w2.heap.size:=Nat.lt_of_lt_of_le hne.out.2.2.2.2 HW12.out
    refine ⟨_,_,_,_,_,_,rfl,key _ (by rw [hss];exact Nat.le_refl _) (fun b e1 _=>store2_far (by omega)),fun wz hz1 hz2=>key wz (by rw [hss] at hz1;exact hz1) (fun b e1 e2=>(hz2 b (Nat.le_trans hsw.out e1) (by rw [hss];exact e2)).trans (store2_far (by omega))),store2_below (HB2.out.trans (HBW.out.mono HB2.out.size)) hne.out.2.2.1⟩
end Go.Proofs.YticimejfjjmikaaGreatDoor
namespace Go.Proofs
open Go.Shelf
def Tryz.laysM316_ren : Go.Shelf.Ren:=⟨fun | 316=>114 | n=>n,fun | 9=>9 | 3=>3 | 4=>4 | 37=>123 | 0=>0 | 127=>212 | 5=>5 | n=>n,fun | n=>n⟩
theorem Tryz.laysM316 : Go.Proofs.LaysM.n316 Tryz.prog Tryz.laysM316_ren:={
 mixed:=by kernel_rfl
 f316:=Tryz.func114.trans (congrArg some (by kernel_rfl))
 t0:=Tryz.underlying0
 a0:=Tryz.isAgg0
 z0:=Tryz.sizeOf0
 v0:=Tryz.zeroValue0
 t3:=Tryz.underlying3
 a3:=Tryz.isAgg3
 z3:=Tryz.sizeOf3
 v3:=Tryz.zeroValue3
 t4:=Tryz.underlying4
 a4:=Tryz.isAgg4
 z4:=Tryz.sizeOf4
 v4:=Tryz.zeroValue4
 t9:=Tryz.underlying9
 a9:=Tryz.isAgg9
 z9:=Tryz.sizeOf9
 v9:=Tryz.zeroValue9
 t37:=Tryz.underlying123
 a37:=Tryz.isAgg123
 z37:=Tryz.sizeOf123
 v37:=Tryz.zeroValue123
 t127:=Tryz.underlying212
 a127:=Tryz.isAgg212
 z127:=Tryz.sizeOf212
 v127:=Tryz.zeroValue212
 t5:=Tryz.underlying5
 a5:=Tryz.isAgg5
 z5:=Tryz.sizeOf5
 v5:=Tryz.zeroValue5
 i0:=by kernel_rfl
 i3:=by kernel_rfl
 i4:=by kernel_rfl
 i5:=by kernel_rfl
 i9:=by kernel_rfl
 i37:=by kernel_rfl
 i127:=by kernel_rfl }
end Go.Proofs
namespace Go.Proofs.YticimejfjjmikaaGreatDoor
open Go.RowKit
theorem slaw : Maps.Keyed Tryz.prog 9:=Maps.string_keyed Tryz.underlying9
theorem skey {s : ByteArray} (hs : s.size <= 9223372036854775807) : keyOf Tryz.prog 9 (.string s) = some (.string s.data.toList):=WideMaps.keyOf_string_mk Tryz.underlying9 hs
theorem zint' (w : World) : (zeroValue 3).run Tryz.prog w = .ok (.int .i64 0) w:=by kernel_rfl
theorem idM_app : ∀ (nm : List ByteArray) (s y : ByteArray),idM (nm ++ [s]) y = if idM nm y < nm.length then idM nm y else if s = y then nm.length else nm.length + 1
 | [],s,y=>by simp [idM]
 | x :: l, s, y => by
  have ih:=idM_app l s y
  rw [List.cons_append]
  unfold idM
  by_cases e : x = y
  ·rw [if_pos e,if_pos e,if_pos (by simp)]
  ·rw [if_neg e, if_neg e, ih]
   have hl : (x :: l).length = l.length + 1:=rfl
   rw [hl]
   by_cases h : idM l y < l.length
   ·rw [if_pos h,if_pos (show idM l y + 1 < l.length + 1 by omega)]
   ·rw [if_neg h, if_neg (show ¬ idM l y + 1 < l.length + 1 by omega)]
    by_cases h2 : s = y
    ·rw [if_pos h2,if_pos h2]
    ·rw [if_neg h2,if_neg h2]
def MapS (w : World) (Bm : Nat) (nm : List ByteArray) : Prop :=
 ∃ D,w.ownsMap (H:=Unit) Tryz.prog 9 (plainElem Tryz.prog 3) Bm nm.length D /\ ∀ s : ByteArray,s.size <= 9223372036854775807 -> Maps.has D (.string s.data.toList) = decide (idM nm s < nm.length) /\ (idM nm s < nm.length -> D.atKey (.string s.data.toList) (.lit (.int .i64 0)) = .lit (.int .i64 ((idM nm s : Nat) : Int)))
section
variable {w w' : World} {Bm : Nat} {nm : List ByteArray} {s : ByteArray}
theorem MapS.lt (h : MapS w Bm nm) : Bm < w.heap.size:=by obtain ⟨D,h1,_⟩:=h;exact h1.lt
theorem MapS.frame (h : MapS w Bm nm) (hb : w'.heap[Bm]? = w.heap[Bm]?) : MapS w' Bm nm:=by
 obtain ⟨D,⟨es,clock,h1,h2,h3,h4⟩,h5⟩:=h
 exact ⟨D,⟨es,clock,hb.trans h1,h2,h3,h4⟩,h5⟩
theorem MapS.made (w : World) : MapS (w.alloc (.map #[] 0)) w.heap.size [] :=
 ⟨.map [],World.ownsMap_made w _ _ _,fun s hs=>⟨by simp [Maps.has],fun h=>by simp at h⟩⟩
theorem MapS.look_ok (h : MapS w Bm nm) (hs : s.size <= 9223372036854775807) : ∃ c : Int,(Instr.lookup 126 (.map (some Bm)) (.string s) true).run Tryz.prog w = .ok (.tuple #[.int .i64 c,.bool (decide (idM nm s < nm.length))]) w /\ (idM nm s < nm.length -> c = (idM nm s : Nat)):=by
 obtain ⟨D,h1,h3⟩:=h
 obtain ⟨v,ps,hrun,hv⟩:=h1.look_ok slaw Tryz.underlying126 (zint' w) (plainElem_int Tryz.underlying3 (a:=0) (by decide)) (skey hs)
 obtain ⟨c,rfl,hc,_⟩:=plainElem_int_inv Tryz.underlying3 hv
 refine ⟨c,by rw [hrun,(h3 s hs).1],fun hl=>?_⟩
 have:=(h3 s hs).2 hl
 have hc1:=congrArg Prod.fst hc
 simp only at hc1
 rw [this] at hc1
 injection hc1 with hc1
 injection hc1 with _ hc1
 exact hc1.symm
theorem MapS.store (h : MapS w Bm nm) (hs : s.size <= 9223372036854775807) (hm : ¬ idM nm s < nm.length) (hl : nm.length <= 1000000000) : ∃ w',(Instr.mapUpdate 126 (.map (some Bm)) (.string s) (.int .i64 (nm.length : Nat))).run Tryz.prog w = .ok () w' /\ MapS w' Bm (nm ++ [s]) /\ w.grownBy w' (some Bm):=by
 obtain ⟨D,h1,h3⟩:=h
 obtain ⟨w',hrun,ho,ht⟩:=h1.store slaw Tryz.underlying126 (by unfold maxLen;omega) (skey hs) (plainElem_int Tryz.underlying3 (a:=(nm.length : Nat)) (WalkArith.wf_i64 (by omega)))
 refine ⟨w',hrun,⟨_,by rw [List.length_append];exact ho,fun y hy=>?_⟩,ht.grown⟩
 rw [idM_app,List.length_append,List.length_singleton]
 by_cases e : s = y
 ·subst e
  rw [if_neg hm,if_pos rfl]
  refine ⟨?_,fun _=>?_⟩
  ·rw [Maps.has_put_same h1.isMap (slaw.key (skey hs))];simp
  ·rw [Maps.atKey_put_same h1.isMap (slaw.key (skey hs))]
 ·have hne : (Lit.string y.data.toList) ≠ .string s.data.toList := fun e' => e (by
   injection e' with e'
   have : y.data = s.data:=by rw [<- Array.toList_inj];exact e'
   exact (ByteArray.ext this).symm)
  obtain ⟨g1,g2⟩:=h3 y hy
  rw [if_neg e]
  refine ⟨?_,fun hmem=>?_⟩
  ·rw [Maps.has_put_other hne, g1]
   by_cases h : idM nm y < nm.length
   ·rw [if_pos h,decide_eq_true h,decide_eq_true (by omega)]
   ·rw [if_neg h,decide_eq_false h,decide_eq_false (by omega)]
  ·by_cases h : idM nm y < nm.length
   ·rw [if_pos h,Maps.atKey_put_other hne,g2 h]
   ·rw [if_neg h] at hmem;omega
end
structure NPo (B gp gm : Nat) (vT : Value) (nm mq : List ByteArray) (w : World) : Prop where
 box : w.heap[gp]? = some (.cells #[.map (some gm),vT] 128 (0,0))
 map : MapS w gm mq
 own : w.ownsRow B 9 1 vT nm.length (sz nm)
 ne : gp ≠ gm
 np : vT.ownBlock ≠ some gp
 nq : vT.ownBlock ≠ some gm
 bp : B <= gp
 bm : B <= gm
def NPf (gp gm : Nat) (vT : Value) : Nat -> Prop:=fun b=>b = gp \/ b = gm \/ vT.ownBlock = some b
def NP (B : Nat) (vn : Value) (nm : List ByteArray) (F : Nat -> Prop) (w : World) : Prop:=∃ gp gm vT,vn = .pointer (some ⟨gp,0,none⟩) /\ NPo B gp gm vT nm nm w /\ ∀ b,F b ↔ NPf gp gm vT b
theorem NPo.ge {B gp gm : Nat} {vT : Value} {nm mq : List ByteArray} {w : World} (h : NPo B gp gm vT nm mq w) : ∀ b,NPf gp gm vT b -> B <= b /\ b < w.heap.size:=by
 rintro b (rfl | rfl | e)
 ·exact ⟨h.bp,(Array.getElem?_eq_some_iff.1 h.box).1⟩
 ·exact ⟨h.bm,h.map.lt⟩
 ·exact h.own.lt b e
theorem NPo.keep {B gp gm : Nat} {vT : Value} {nm mq : List ByteArray} {w w' : World} (h : NPo B gp gm vT nm mq w) (hb : ∀ b,NPf gp gm vT b -> w'.heap[b]? = w.heap[b]?) : NPo B gp gm vT nm mq w' :=
 ⟨(hb gp (.inl rfl)).trans h.box,h.map.frame (hb gm (.inr (.inl rfl))),own_at h.own (fun b e=>hb b (.inr (.inr e))),h.ne,h.np,h.nq,h.bp,h.bm⟩
theorem NPo.on {B gp gm : Nat} {vT : Value} {nm mq : List ByteArray} {w w' : World} (h : NPo B gp gm vT nm mq w) (hb : Below w.heap.size w w') : NPo B gp gm vT nm mq w':=h.keep (fun b e=>hb.block b (h.ge b e).2)
theorem NPo.turn {B gp gm : Nat} {vT : Value} {nm mq mq' : List ByteArray} {w w' : World} (h : NPo B gp gm vT nm mq w) (hg : w.grownBy w' (some gm)) (hm : MapS w' gm mq') : NPo B gp gm vT nm mq' w':=by
 have hk : ∀ b,b < w.heap.size -> b ≠ gm -> w'.heap[b]? = w.heap[b]?:=fun b hb hne=>hg.block b hb (fun e=>hne (Option.some.inj e))
 exact ⟨(hk gp (h.ge gp (.inl rfl)).2 h.ne).trans h.box,hm,own_at h.own (fun b e=>hk b (h.ge b (.inr (.inr e))).2 (fun e'=>h.nq (by rw [e,e']))),h.ne,h.np,h.nq,h.bp,h.bm⟩
theorem NPo.push {B gp gm : Nat} {vT : Value} {nm nm' mq : List ByteArray} {w w' : World} {g cap n : Nat} (h : NPo B gp gm vT nm mq w) (hn : nm'.length = n) (ho : w'.ownsRow B 9 1 (.slice (some ⟨g,0,none⟩) n cap) n (sz nm')) (hg : w.grownBy w' vT.ownBlock) (hl : vT.ownBlock = some g \/ g = w.heap.size) :
  NPo B gp gm (.slice (some ⟨g,0,none⟩) n cap) nm' mq (w'.setCell ⟨gp,1,none⟩ (.slice (some ⟨g,0,none⟩) n cap)) /\ w'.cell? ⟨gp,1,none⟩ = some vT /\ w'.frozen? ⟨gp,1,none⟩ = false:=by
 subst hn
 have hk : ∀ b,b < w.heap.size -> vT.ownBlock ≠ some b -> w'.heap[b]? = w.heap[b]?:=fun b hb hne=>hg.block b hb (fun e=>hne e.symm)
 have hp:=h.ge gp (.inl rfl)
 have hm:=h.ge gm (.inr (.inl rfl))
 have hbx:=(hk gp hp.2 h.np).trans h.box
 have hgp : g ≠ gp:=by
  rcases hl with e | e
  ·exact fun e'=>h.np (by rw [e,e'])
  ·omega
 have hgm : g ≠ gm:=by
  rcases hl with e | e
  ·exact fun e'=>h.nq (by rw [e,e'])
  ·omega
 have hset : ∀ b,b ≠ gp -> (w'.setCell ⟨gp,1,none⟩ (.slice (some ⟨g,0,none⟩) nm'.length cap)).heap[b]? = w'.heap[b]?:=fun b hne=>Below.heap_setCell _ _ _ _ hne
 refine ⟨⟨?_,h.map.frame ((hset gm (fun e=>h.ne e.symm)).trans (hk gm hm.2 h.nq)),own_at ho (fun b e=>hset b (fun e'=>hgp ((Option.some.inj e).trans e'))),h.ne,fun e=>hgp (Option.some.inj e),fun e=>hgm (Option.some.inj e),h.bp,h.bm⟩,blk_cell hbx 1,blk_free hbx 1⟩
 rw [blk_set (i:=1) hbx];rfl
theorem NP.ge {B : Nat} {vn : Value} {nm : List ByteArray} {F : Nat -> Prop} {w : World} (h : NP B vn nm F w) : ∀ b,F b -> B <= b /\ b < w.heap.size:=by
 obtain ⟨gp,gm,vT,_,h1,h2⟩:=h
 exact fun b e=>h1.ge b ((h2 b).1 e)
theorem NP.keep {B : Nat} {vn : Value} {nm : List ByteArray} {F : Nat -> Prop} {w w' : World} (h : NP B vn nm F w) (hb : ∀ b,F b -> w'.heap[b]? = w.heap[b]?) : NP B vn nm F w':=by
 obtain ⟨gp,gm,vT,h0,h1,h2⟩:=h
 exact ⟨gp,gm,vT,h0,h1.keep (fun b e=>hb b ((h2 b).2 e)),h2⟩
theorem NP.ptr {B : Nat} {vn : Value} {nm : List ByteArray} {F : Nat -> Prop} {w : World} (h : NP B vn nm F w) : ∃ gn,vn = .pointer (some ⟨gn,0,none⟩):=by
 obtain ⟨gp,gm,vT,h0,_⟩:=h
 exact ⟨gp,h0⟩
theorem NP.weak {B B' : Nat} {vn : Value} {nm : List ByteArray} {F : Nat -> Prop} {w : World} (h : NP B vn nm F w) (hb : B' <= B) : NP B' vn nm F w:=by
 obtain ⟨gp,gm,vT,h0,h1,h2⟩:=h
 refine ⟨gp,gm,vT,h0,⟨h1.box,h1.map,⟨h1.own.1,?_⟩,h1.ne,h1.np,h1.nq,Nat.le_trans hb h1.bp,Nat.le_trans hb h1.bm⟩,h2⟩
 rcases h1.own.2 with e | ⟨g,cap,cur,e1,e2,e3⟩
 ·exact .inl e
 ·exact .inr ⟨g,cap,cur,e1,Nat.le_trans hb e2,e3⟩
def NPPost (B : Nat) (vn : Value) (F : Nat -> Prop) (w : World) (nm' : List ByteArray) (w' : World) : Prop:=∃ F',NP B vn nm' F' w' /\ (∀ b,F' b -> F b \/ w.heap.size <= b) /\ Mod F w w'
theorem pnames_any (w : World) : Calls Tryz.prog 31 #[] w fun e w'=>∃ vn F,e = .returned vn /\ NP w.heap.size vn [] F w' /\ Below w.heap.size w w':=by
 have hm:=MapS.made w
 have b1:=Ba w (.map #[] 0)
 have b2:=Ba (w.alloc (.map #[] 0)) (.cells #[.map (some w.heap.size),.slice none 0 0] 128)
 have hx:=blk_new (w.alloc (.map #[] 0)) #[.map (some w.heap.size),.slice none 0 0] 128
 rw [size_alloc] at hx
 have HM:=hid (hm.frame (b2.block w.heap.size (by rw [size_alloc];omega)))
 have HB:=hid (Bt b1 b2)
 have HX:=hid hx
 clear hm b1 b2 hx
 have hmm:=@run_makeMap Tryz.prog
 go_enter Tryz.func31,Tryz.ntmps31
 go_wp2
 go_ret
 refine ⟨_,NPf (w.heap.size + 1) w.heap.size (.slice none 0 0),rfl,⟨w.heap.size + 1,w.heap.size,.slice none 0 0,rfl,⟨HX.out,HM.out,World.ownsRow_nil _ _ _ _,by omega,by simp [Value.ownBlock],by simp [Value.ownBlock],by omega,by omega⟩,fun b=>Iff.rfl⟩,HB.out⟩
theorem clone_str (s : ByteArray) (w : World) (hs : s.size <= 1000000000) : Calls Tryz.prog 64 #[.string s] w fun e w'=>e = .returned (.string s) /\ Below w.heap.size w w':=by
 have C:=hid (Any.stringslite_Clone (P:=Tryz.prog) Tryz.laysM316 s w (by omega))
 go_enter Tryz.func64,Tryz.ntmps64
 go_wp2_with (go_at_call 114;(refine C.out.mono ?_);rintro e W1 ⟨rfl,b1⟩)
 go_ret
 exact ⟨rfl,b1⟩
section
variable {B : Nat} {vn : Value} {nm : List ByteArray} {F : Nat -> Prop}
set_option maxHeartbeats 4000000 in
theorem pid_any (s : ByteArray) (w : World) (h : NP B vn nm F w) (hB : B <= w.heap.size) (hl : nm.length <= 1000000) (hs : s.size <= 1000000) : Calls Tryz.prog 32 #[vn,.string s] w fun e w'=>e = .returned (.int .i64 (idM nm s : Nat)) /\ NPPost B vn F w (idL nm s) w':=by
 obtain ⟨gp,gm,vT,rfl,hp,hF⟩:=h
 have HP:=hid hp
 have HFF:=hid hF
 have c0 : w.cell? ⟨gp,0,none⟩ = some (.map (some gm)):=blk_cell hp.box 0
 obtain ⟨c,hrun,hc⟩:=hp.map.look_ok (s:=s) (by omega)
 by_cases hm : idM nm s < nm.length
 ·obtain rfl := hc hm
  rw [decide_eq_true hm] at hrun
  have HI : Hid (idL nm s = nm):=by unfold Hid idL;rw [if_pos hm]
  have fin : Hid (NPPost B (.pointer (some ⟨gp,0,none⟩)) F w (idL nm s) w):=by
   unfold Hid
   rw [HI.out]
   exact ⟨F,⟨gp,gm,vT,rfl,HP.out,HFF.out⟩,fun b e=>.inl e,Mod.refl _ _⟩
  obtain ⟨k,hk⟩ : ∃ k,k = idM nm s:=⟨_,rfl⟩
  rw [<- hk] at hrun ⊢
  clear hp hF hc hm HI hk hB hl
  have hqm : ∀ (wx : World) (r : Option Nat),(binOp .eql 126 (.map r) (.map none)).run Tryz.prog wx = .ok (.bool r.isNone) wx:=fun wx r=>run_eql_map_nil wx _ _ _ r Tryz.underlying126
  go_enter Tryz.func32,Tryz.ntmps32
  go_wp2
  go_ret
  exact ⟨rfl,fin.out⟩
 ·rw [decide_eq_false hm] at hrun
  have HI : Hid (idL nm s = nm ++ [s] /\ idM nm s = nm.length):=by
   refine ⟨by unfold idL;rw [if_neg hm],?_⟩
   have:=idM_le nm s
   omega
  obtain ⟨aT,cT,hvT,hTf,hTm⟩:=slice_form hp.own
  subst hvT
  have c1 : w.cell? ⟨gp,1,none⟩ = some (.slice aT nm.length cT):=blk_cell hp.box 1
  have HM:=hid hm
  have HC : Hid (∀ W,Below w.heap.size w W -> Calls Tryz.prog 64 #[.string s] W fun e w'=>e = .returned (.string s) /\ Below W.heap.size W w'):=fun W _=>clone_str s W (by omega)
  have HS:=hid hs
  have HBB:=hid hB
  rw [HI.out.1,HI.out.2]
  obtain ⟨n,hn⟩ : ∃ n,n = nm.length:=⟨_,rfl⟩
  have HN:=hid hn
  rw [<- hn] at c1 hTf hl HP HFF ⊢
  clear hp hF hc hm hs hB hn HI
  have hqm : ∀ (wx : World) (r : Option Nat),(binOp .eql 126 (.map r) (.map none)).run Tryz.prog wx = .ok (.bool r.isNone) wx:=fun wx r=>run_eql_map_nil wx _ _ _ r Tryz.underlying126
  go_enter Tryz.func32,Tryz.ntmps32
  go_wp2_with (first
   | (go_at_call 64;(refine (HC.out w (Below.refl _ _)).mono ?_);rintro e W1 ⟨rfl,b1⟩;have HB1:=hid b1;have HP1:=hid (HP.out.on b1);have d0 : W1.cell? ⟨gp,0,none⟩ = some (.map (some gm)):=blk_cell HP1.out.box 0;obtain ⟨W2,hst,hm2,hg2⟩:=HP1.out.map.store (s:=s) (by have:=HS.out;omega) HM.out (by rw [<- HN.out];omega);rw [<- HN.out] at hst;have HP2:=hid (HP1.out.turn hg2 hm2);have HG2:=hid hg2;have d1 : W2.cell? ⟨gp,1,none⟩ = some (.slice aT n cT):=blk_cell HP2.out.box 1;have HP3:=hid (HP2.out.on (Ba W2 (.cells #[.string s] 9)));have ho3:=HP3.out.own;rw [<- HN.out] at ho3;have HO3:=hid ho3;have HC3 : Hid ((W2.alloc (.cells #[.string s] 9)).cell? ⟨W2.heap.size,0,none⟩ = some (.string s)):=blk_cell (blk_new W2 #[.string s] 9) 0;have HZ3 : Hid (B <= (W2.alloc (.cells #[.string s] 9)).heap.size):=Nat.le_trans HBB.out (Nat.le_trans b1.size (Nat.le_trans hg2.size (Ba W2 _).size));clear b1 hm2 hg2 ho3)
   | (at_builtin;refine appS rfl _ _ 71 rfl B 9 Tryz.underlying71 info_str _ n nm rfl HO3.out W2.heap.size 1 s rfl HC3.out (by omega) HZ3.out ?_;intro g1 cap1 w4 ho4 hg4 hl4 hlt4;obtain ⟨h5,e1,f1⟩:=HP3.out.push (n:=n + 1) (nm':=nm ++ [s]) (by rw [List.length_append,<- HN.out];rfl) ho4 hg4 hl4;have HP5:=hid h5;have HG4:=hid hg4;have HL4:=hid hl4;clear ho4 hg4 hl4 h5))
  go_ret
  have k1:=HB1.out.size
  have k2:=HG2.out.size
  have hfin : NPPost B (.pointer (some ⟨gp,0,none⟩)) F w (nm ++ [s]) (w4.setCell ⟨gp,1,none⟩ (.slice (some ⟨g1,0,none⟩) (n + 1) cap1)):=by
   refine ⟨NPf gp gm (.slice (some ⟨g1,0,none⟩) (n + 1) cap1),⟨gp,gm,_,rfl,HP5.out,fun b=>Iff.rfl⟩,fun b hb=>?_,?_⟩
   ·rcases hb with e | e | e
    ·exact .inl ((HFF.out b).2 (.inl e))
    ·exact .inl ((HFF.out b).2 (.inr (.inl e)))
    ·have e' : g1 = b := Option.some.inj e
     rcases HL4.out with e2 | e2
     ·exact .inl ((HFF.out b).2 (.inr (.inr (by rw [<- e'];exact e2))))
     ·rw [size_alloc] at e2;exact .inr (by omega)
   ·have m1 := Mod.of_below F HB1.out
    have m2:=m1.grown HG2.out (fun k e=>.inl ((HFF.out k).2 (by have e' : gm = k:=Option.some.inj e;rw [<- e'];exact .inr (.inl rfl))))
    have m3 : Mod F w (W2.alloc (.cells #[.string s] 9)):=m2.trans (Mod.of_below F (Ba W2 (.cells #[.string s] 9))) (fun _ _ e=>e)
    have m4:=m3.grown HG4.out (fun k e=>.inl ((HFF.out k).2 (.inr (.inr e))))
    exact m4.setCell (p:=⟨gp,1,none⟩) (.inl ((HFF.out gp).2 (.inl rfl))) _
  exact ⟨rfl,hfin⟩
end
theorem PH.weak {B B' : Nat} {v : Value} {N : Int} {ws : List Int} {F : Nat -> Prop} {w : World} (h : PH B v N ws F w) (hb : B' <= B) : PH B' v N ws F w:=by
 obtain ⟨gh,gw,n,rest,e,h1,h2,h3,h4,h5,h6,h7,h8⟩:=h.ok
 exact ⟨⟨gh,gw,n,rest,e,h1,h2,h3,h4,h5,Nat.le_trans hb h6,Nat.le_trans hb h7,h8⟩,h.bd,h.u⟩
def TabsS (w : World) : Prop := Tabs w /\ Lib.TabIs Tryz.prog w "internal/strconv.uint64pow10" .u64 Lib.pow10Tab
theorem TabsS.below {w w' : World} (h : TabsS w) (hb : Below w.heap.size w w') : TabsS w':=by
 refine ⟨Tabs.below h.1 hb,?_⟩
 cases hg : Tryz.prog.globalNamed "internal/strconv.uint64pow10" with
 | none =>
  have:=h.2
  unfold Lib.TabIs World.var? at this
  rw [hg] at this
  cases this
 | some g=>exact Joins.tab_stays hg h.2 hb (Nat.le_refl _)
structure PN (B : Nat) (v vn : Value) (N : Int) (os : List Ob) (nm : List ByteArray) (F : Nat -> Prop) (w : World) : Prop where
 ok : ∃ F1 F2,PH B v N (wordsL os) F1 w /\ NP B vn nm F2 w /\ (∀ b,F1 b -> ¬ F2 b) /\ (∀ b,F b ↔ F1 b \/ F2 b)
 fine : OsOk os
def PNPost (B : Nat) (v vn : Value) (N : Int) (F : Nat -> Prop) (w : World) (os' : List Ob) (nm' : List ByteArray) (w' : World) : Prop:=∃ F',PN B v vn N os' nm' F' w' /\ (∀ b,F' b -> F b \/ w.heap.size <= b) /\ Mod F w w'
section
variable {B : Nat} {v vn : Value} {N : Int} {os : List Ob} {nm : List ByteArray} {F : Nat -> Prop} {w w' : World}
theorem PN.ge (h : PN B v vn N os nm F w) : ∀ b,F b -> B <= b /\ b < w.heap.size:=by
 obtain ⟨F1,F2,h1,h2,h3,h4⟩:=h.ok
 exact fun b hb=>((h4 b).1 hb).elim (h1.ge b) (h2.ge b)
theorem PN.keep (h : PN B v vn N os nm F w) (hb : ∀ b,F b -> w'.heap[b]? = w.heap[b]?) : PN B v vn N os nm F w':=by
 obtain ⟨F1,F2,h1,h2,h3,h4⟩:=h.ok
 exact ⟨⟨F1,F2,h1.keep (fun b e=>hb b ((h4 b).2 (.inl e))),h2.keep (fun b e=>hb b ((h4 b).2 (.inr e))),h3,h4⟩,h.fine⟩
theorem PN.on (h : PN B v vn N os nm F w) (hb : Below w.heap.size w w') : PN B v vn N os nm F w':=h.keep (fun b e=>hb.block b (h.ge b e).2)
theorem PN.ptrs (h : PN B v vn N os nm F w) : ∃ gh gp,v = .pointer (some ⟨gh,0,none⟩) /\ vn = .pointer (some ⟨gp,0,none⟩):=by
 obtain ⟨F1,F2,h1,h2,h3,h4⟩:=h.ok
 obtain ⟨gh,e1⟩:=h1.ptr
 obtain ⟨gp,e2⟩:=h2.ptr
 exact ⟨gh,gp,e1,e2⟩
theorem PN.bd (h : PN B v vn N os nm F w) : usedL os <= 4194304 /\ N <= 4194304:=by
 obtain ⟨F1,F2,h1,h2,h3,h4⟩:=h.ok
 have hb:=h1.bd
 exact ⟨ph_used h1,hb.2⟩
theorem PNPost.same (h : PN B v vn N os nm F w) (hb : Below w.heap.size w w') : PNPost B v vn N F w os nm w':=⟨F,h.on hb,fun b e=>.inl e,Mod.of_below _ hb⟩
theorem pn_new {W0 W1 W2 : World} {F1 F2 : Nat -> Prop} (h1 : PH W0.heap.size v N [] F1 W1) (b1 : Below W0.heap.size W0 W1) (h2 : NP W1.heap.size vn [] F2 W2) (b2 : Below W1.heap.size W1 W2) : PN W0.heap.size v vn N [] [] (fun b=>F1 b \/ F2 b) W2:=by
 refine ⟨⟨F1,F2,h1.keep (fun b e=>b2.block b (h1.ge b e).2),h2.weak b1.size,fun b e1 e2=>?_,fun b=>Iff.rfl⟩,⟨fun x hx=>(by cases hx),fun x hx=>(by cases hx),fun x hx=>(by cases hx)⟩⟩
 have:=(h1.ge b e1).2
 have:=(h2.ge b e2).1
 omega
theorem pn_id (h : PN B v vn N os nm F w) (s : ByteArray) (hB : B <= w.heap.size) (hl : nm.length <= 1000000) (hs : s.size <= 1000000) :
  Calls Tryz.prog 32 #[vn,.string s] w fun e w'=>e = .returned (.int .i64 (idM nm s : Nat)) /\ PNPost B v vn N F w os (idL nm s) w':=by
 obtain ⟨F1,F2,h1,h2,h3,h4⟩:=h.ok
 refine (pid_any s w h2 hB hl hs).mono ?_
 rintro e w' ⟨rfl,F',p1,p2,p4⟩
 refine ⟨rfl,fun b=>F1 b \/ F' b,⟨⟨F1,F',h1.keep (fun b e=>p4.block b (h1.ge b e).2 (h3 b e)),p1,fun b e1 e2=>?_,fun b=>Iff.rfl⟩,h.fine⟩,fun b e=>?_,p4.mono (fun b _ e=>(h4 b).2 (.inr e))⟩
 ·rcases p2 b e2 with e | e
  ·exact h3 b e1 e
  ·have:=(h1.ge b e1).2;omega
 ·rcases e with e | e
  ·exact .inl ((h4 b).2 (.inl e))
  ·rcases p2 b e with e | e
   ·exact .inl ((h4 b).2 (.inr e))
   ·exact .inr e
theorem PN.heap {os' : List Ob} {F1 F2 : Nat -> Prop} (h1 : PH B v N (wordsL os) F1 w) (h2 : NP B vn nm F2 w) (h3 : ∀ b,F1 b -> ¬ F2 b) (h4 : ∀ b,F b ↔ F1 b \/ F2 b) (hp : PPost B v N F1 w (wordsL os') w') (ho : OsOk os') : PNPost B v vn N F w os' nm w':=by
 obtain ⟨F',p1,p2,p4⟩:=hp
 refine ⟨fun b=>F' b \/ F2 b,⟨⟨F',F2,p1,h2.keep (fun b e=>p4.block b (h2.ge b e).2 (fun e1=>h3 b e1 e)),fun b e1 e2=>?_,fun b=>Iff.rfl⟩,ho⟩,fun b e=>?_,p4.mono (fun b _ e=>(h4 b).2 (.inl e))⟩
 ·rcases p2 b e1 with e | e
  ·exact h3 b e e2
  ·have:=(h2.ge b e2).2;omega
 ·rcases e with e | e
  ·rcases p2 b e with e | e
   ·exact .inl ((h4 b).2 (.inl e))
   ·exact .inr e
  ·exact .inl ((h4 b).2 (.inr e))
theorem pn_alloc (h : PN B v vn N os nm F w) (kind : Int) (hk : Z64 kind) (ao : Option Addr) (n cap : Nat) (fl : List Int) (R : URow w ao n cap fl) (hB : B <= w.heap.size) (ha : ∀ a,ao = some a -> ¬ F a.block) (hsm : n <= 1000000) (ho : OsOk (allocO os N kind fl)) :
  Calls Tryz.prog 47 #[v,.int .i64 kind,.slice ao n cap] w fun e w'=>e = .returned (.tuple #[.int .u64 (allocM os N kind fl).1,.int .i64 (allocM os N kind fl).2]) /\ PNPost B v vn N F w (allocO os N kind fl) nm w':=by
 obtain ⟨F1,F2,h1,h2,h3,h4⟩:=h.ok
 refine (palloc_any h.fine kind hk ao n cap fl w h1 R hB (fun a e hf=>ha a e ((h4 _).2 (.inl hf))) hsm).mono ?_
 rintro e w' ⟨rfl,hp⟩
 exact ⟨rfl,PN.heap h1 h2 h3 h4 hp ho⟩
end
end Go.Proofs.YticimejfjjmikaaGreatDoor
