import Derived.Test.YticimejfjjmikaaGreatDoorG21
import Derived.Deep.RegionLaw
import Derived.Deep.AppendLies
import Derived.Test.YticimejfjjmikaaGreatDoorST3
import Derived.Test.YticimejfjjmikaaGreatDoorQ1
import Derived.Test.YticimejfjjmikaaGreatDoorG9
import Derived.Lib.MapLaws
import Derived.Lib.QuoteLoop
set_option linter.unusedVariables false
set_option linter.unusedSimpArgs false
set_option maxRecDepth 100000
namespace Go.Proofs.YticimejfjjmikaaGreatDoor
open Go.RowKit
theorem info_pair : (Tryz.prog.info? 115).map (fun i=>(i.zero,i.size,i.bytes)) = some (some (.agg #[.int .u64 0,.int .u64 0]),2,16):=by kernel_rfl
section
variable {P : Program} {w : World} {ops : Array Oper} {o : Oper} {a : Act} {K : Act -> World -> Prop} {Q : Exit -> Act -> World -> Prop} {E : Prop}
theorem stepPair (dst : Option Nat) (hdst : o.dst = dst) (hgd : o.guard = none) (s x : Operand) (t : TypeId) (ho : o.op = .call { callee:=.builtin .append,args:=#[s,x],argTypes:=#[t,t] })
  (base : Nat) (e : TypeId) (ht : P.underlying t = some (.slice e)) (hi : (P.info? e).map (fun i=>(i.zero,i.size,i.bytes)) = some (some (.agg #[.int .u64 0,.int .u64 0]),2,16))
  (v : Value) (n : Nat) (l : List (Int × Int)) (hs : a.eval s = v) (hown : w.ownsRow base e 2 v n (pz l))
  (g0 c : Nat) (d : Int × Int) (hx : a.eval x = .slice (some ⟨g0,0,none⟩) 1 c) (hd : w.heap[g0]? = some (.cells #[.int .u64 d.1,.int .u64 d.2] e (0,0))) (hsm : n <= 10000000) (hbase : base <= w.heap.size)
  (h : ∀ g cap w',w'.ownsRow base e 2 (.slice (some ⟨g,0,none⟩) (n + 1) cap) (n + 1) (pz (l ++ [d])) -> w.grownBy w' v.ownBlock -> (v.ownBlock = some g \/ g = w.heap.size) -> g < w'.heap.size -> K (a.put dst (.slice (some ⟨g,0,none⟩) (n + 1) cap)) w') :
  if Region.wanted o (yielded ops a.tmps) = true then Oper.wp P o a w K Q else E:=by
 subst hdst
 have hw : Region.wanted o (yielded ops a.tmps) = true:=by simp [Region.wanted,hgd]
 rw [if_pos hw]
 obtain ⟨i0,hi0,hz0,hz1,hz2⟩:=info_parts hi
 refine wp_append_lies w s x t ho base e i0 _ 2 16 ht hi0 hz0 hz1 hz2 rfl (by decide) v n (pz l) hs hown ⟨g0,0,none⟩ 1 c (pz [d]) hx rfl ?_ ?_ (by decide) (by unfold maxLen;omega) (by omega) hbase w.heap.size rfl ?_
 ·intro j u hj
  have hc:=blk_cell hd j
  have e1 : (#[Value.int .u64 d.1,.int .u64 d.2])[j]? = (pz [d])[j]?:=by simp [pz]
  rw [e1,hj] at hc
  unfold Addr.add
  by_cases hj0 : j = 0
  ·subst hj0;simpa using hc
  ·rw [if_neg hj0];simpa using hc
 ·intro u hu;simp [pz] at hu;rcases hu with rfl | rfl <;> rfl
 ·intro g cap w' h1 h2 h3 h4
  refine h g cap w' ?_ h2 h3 h4
  rw [pz_append];exact h1
end
structure MZ (os : List Ob) (a0 b0 : Int) (cur : Int × Int -> Prop) (M b : Nat) (w0 : World) (v : Value) (S : US) (w : World) : Prop where
 mt : MT b w0 v S.vO S.q S.L S.hq S.op w
 mg : MG os a0 b0 cur M S
def MePost (os : List Ob) (a0 b0 : Int) (cur : Int × Int -> Prop) (M b : Nat) (w0 : World) (v : Value) (S : US) (x y : Int) (bb : Bool) (w' : World) : Prop :=
 ∃ S',MZ os a0 b0 cur M b w0 v S' w' /\ (∀ u z,S.root u = S.root z -> S'.root u = S'.root z) /\ (bb = true -> S'.root x = S'.root y) /\ (bb = false -> ¬ Alike (hpO os) x y)
def MeEnd (os : List Ob) (a0 b0 : Int) (cur : Int × Int -> Prop) (M b : Nat) (w0 : World) (v : Value) (S : US) (x y : Int) (e : Ending) (w' : World) : Prop:=∃ bb,e = .returned (.bool bb) /\ MePost os a0 b0 cur M b w0 v S x y bb w'
section
variable {B : Nat} {v : Value} {N : Int} {os : List Ob} {F : Nat -> Prop} {a0 b0 : Int} {cur : Int × Int -> Prop} {M : Nat} {w0 : World} {S : US}
set_option maxHeartbeats 8000000 in
theorem emeet_any (x y : Int) (hx : U64 x) (hy : U64 y) (w : World) (h0 : HE B v N os F w0) (h : MZ os a0 b0 cur M w0.heap.size w0 v S w) (ha : Alike (hpO os) a0 b0 -> Alike (hpO os) x y) (hMM : M <= 10000000) :
  Calls Tryz.prog 56 #[.pointer (some ⟨w0.heap.size + 2,0,none⟩),.int .u64 x,.int .u64 y] w (MeEnd os a0 b0 cur M w0.heap.size w0 v S x y):=by
 have hus:=h0.used
 have hl:=h.mt.lt
 have hbw:=h.mt.bel
 by_cases hxy : x = y
 ·have e1 : (x == y) = true := by simp [hxy]
  have HP : Hid (MePost os a0 b0 cur M w0.heap.size w0 v S x y true w):=⟨S,h,fun _ _ e=>e,fun _=>by rw [hxy],fun e=>by cases e⟩
  clear h h0 ha hx hy hxy hus hl hbw
  go_enter Tryz.func56,Tryz.ntmps56
  go_wp2_with fail
  go_ret
  exact ⟨true,rfl,HP.out⟩
 have e1 : (x == y) = false:=by simp [hxy]
 obtain ⟨bA,hbA⟩ : ∃ b,b = w0.heap.size:=⟨_,rfl⟩
 rw [<- hbA] at h hl hbw ⊢
 obtain ⟨gp,hgp⟩ : ∃ g,g = w.heap.size:=⟨_,rfl⟩
 obtain ⟨W1,hW1⟩ : ∃ W,W = w.alloc (.cells #[.int .u64 x,.int .u64 y] 115):=⟨_,rfl⟩
 have hb1 : Below w.heap.size w W1:=by rw [hW1];exact Ba w _
 have hs1 : W1.heap.size = gp + 1:=by rw [hW1,size_alloc,hgp]
 have hp1 : W1.heap[gp]? = some (.cells #[.int .u64 x,.int .u64 y] 115 (0,0)):=by rw [hW1,hgp];exact blk_new _ _ _
 have h1:=h.mt.on hb1
 have hlook : ∀ wx,Below W1.heap.size W1 wx -> (Instr.lookup 109 (.map (some bA)) (.agg #[.int .u64 x,.int .u64 y]) true).run Tryz.prog wx = .ok (.tuple #[.agg #[],.bool (decide ((x,y)∈S.hq))]) wx:=fun wx hb=>(h1.on hb).mh.look hx hy
 have hr1 : (Instr.lookup 109 (.map (some bA)) (.agg #[.int .u64 x,.int .u64 y]) true).run Tryz.prog W1.drew = .ok (.tuple #[.agg #[],.bool (decide ((x,y)∈S.hq))]) W1.drew:=hlook _ (Bd W1 1)
 have hr2 : ∀ ob,(Instr.lookup 109 (.map (some bA)) (.agg #[.int .u64 x,.int .u64 y]) true).run Tryz.prog (W1.alloc ob).drew = .ok (.tuple #[.agg #[],.bool (decide ((x,y)∈S.hq))]) (W1.alloc ob).drew:=fun ob=>hlook _ (Bt (Ba W1 ob) (Bd _ 1))
 have c1 : W1.cell? ⟨bA + 2,1,none⟩ = some (.map (some bA)):=blk_cell h1.box 1
 have p0 : W1.cell? ⟨gp,0,none⟩ = some (.int .u64 x):=blk_cell hp1 0
 have p1 : W1.cell? ⟨gp,1,none⟩ = some (.int .u64 y):=blk_cell hp1 1
 have n1 : ∀ ob,(W1.alloc ob).cell? ⟨bA + 2,1,none⟩ = some (.map (some bA)):=fun ob=>blk_cell (h1.on (Ba W1 ob)).box 1
 have n2 : ∀ ob,(W1.alloc ob).cell? ⟨gp,0,none⟩ = some (.int .u64 x):=fun ob=>((Ba W1 ob).cell (p:=⟨gp,0,none⟩) (cell_lt p0)).trans p0
 have n3 : ∀ ob,(W1.alloc ob).cell? ⟨gp,1,none⟩ = some (.int .u64 y):=fun ob=>((Ba W1 ob).cell (p:=⟨gp,1,none⟩) (cell_lt p1)).trans p1
 obtain ⟨bh,hbh⟩ : ∃ b,b = decide ((x,y)∈S.hq):=⟨_,rfl⟩
 rw [<- hbh] at hr1 hr2
 have HBH:=hid hbh
 have HM:=hid h
 have HW1:=hid hW1
 have HH0:=hid h0
 have HXY:=hid hxy
 have HX:=hid hx
 have HY:=hid hy
 have HAL:=hid ha
 have HP1:=hid hp1
 have HS1:=hid hs1
 have HGP:=hid hgp
 have HB1:=hid hb1
 have HT1:=hid h1
 have HBA:=hid hbA
 rw [hW1,hgp] at p0 p1 n2 n3
 rw [hW1] at hr1 hr2 c1 n1
 clear h h0 ha hx hy hxy hbh hW1 hp1 hs1 hgp hb1 h1 hlook hbA hbw
 go_enter Tryz.func56,Tryz.ntmps56
 go_wp2_with fail
 go_region
 obtain ⟨W2,hW2⟩ : ∃ W,W = ((w.alloc (.cells #[.int .u64 x,.int .u64 y] 115)).alloc (.cells #[] 168)).drew:=⟨_,rfl⟩
 rw [<- hW2]
 have hb2 : Below W1.heap.size W1 W2:=by rw [hW2,<- HW1.out];exact Bt (Ba W1 _) (Bd _ 1)
 have HT2:=hid (HT1.out.on hb2)
 have hs2:=hb2.size
 have HP2 : Hid (W2.heap[gp]? = some (.cells #[.int .u64 x,.int .u64 y] 115 (0,0))):=(hb2.block gp (by rw [HS1.out];omega)).trans HP1.out
 have HG2 : Hid (bA + 3 <= gp /\ gp < W2.heap.size):=⟨by rw [HGP.out];exact hl,by rw [HS1.out] at hs2;omega⟩
 have hgp:=HGP.out
 rw [<- hgp]
 have hpush:=HM.out.mg
 have HMG:=hid hpush
 have c0 : W2.cell? ⟨bA + 2,0,none⟩ = some v:=blk_cell HT2.out.box 0
 clear hb2 hs2 hW2 c1 p0 p1 n1 n2 n3 hr1 hr2 HB1 HP1 HS1 HW1 HT1 hgp HGP HM hl hpush
 cases bh
 ·have CM := hid (emay_any x y HX.out HY.out W2 (HH0.out.on (by rw [<- HBA.out]; exact HT2.out.bel)))
  have hmi:=mayB_iff HH0.out.fine x y
  obtain ⟨mb,hmb⟩ : ∃ b,b = mayB os x y:=⟨_,rfl⟩
  rw [<- hmb] at CM hmi
  have HMI:=hid hmi
  clear hmi hmb
  obtain ⟨gh,hgh⟩:=HH0.out.ph.ptr
  cases mb
  ·have HNA : Hid (¬ Alike (hpO os) x y) := fun e => by have := HMI.out.2 (e.may HXY.out); cases this
   subst hgh
   go_wp2_with (go_at_call 101;(with_reducible refine CM.out.mono ?_);rintro e W3 ⟨rfl,b3⟩;have HT3:=hid (HT2.out.on b3);clear b3)
   go_ret
   exact ⟨false,rfl,S,⟨HT3.out,HMG.out⟩,fun _ _ e=>e,fun e=>(by cases e),fun _=>HNA.out⟩
  ·have hmay := HMI.out.1 rfl
   have HMAY:=hid hmay
   have hnm : (x,y) ∉ S.hq:=of_decide_eq_false HBH.out.symm
   have HNM:=hid hnm
   have hql:=HMG.out.qlen hus
   have hhl:=HMG.out.hlen hus
   have ST : Hid (∀ W3,Below W2.heap.size W2 W3 -> ∃ w4,(Instr.mapUpdate 109 (.map (some bA)) (.agg #[.int .u64 x,.int .u64 y]) (.agg #[])).run Tryz.prog W3.drew = .ok () w4 /\ W3.cell? ⟨bA + 2,1,none⟩ = some (.map (some bA)) /\ W3.cell? ⟨gp,0,none⟩ = some (.int .u64 x) /\ W3.cell? ⟨gp,1,none⟩ = some (.int .u64 y) /\ MT bA w0 v S.vO S.q S.L (S.hq ++ [(x,y)]) S.op w4 /\ w4.heap[gp]? = some (.cells #[.int .u64 x,.int .u64 y] 115 (0,0)) /\ gp < w4.heap.size):=fun W3 hb=>by
    have hg:=HG2.out
    have h3:=HT2.out.on hb
    have h3d:=h3.on (Bd W3 1)
    have hp3:=(hb.block gp hg.2).trans HP2.out
    obtain ⟨w4,hst,hm4,hg4⟩:=h3d.mh.store HX.out HY.out HNM.out (by omega)
    have hs4 : W3.drew.heap.size <= w4.heap.size:=hg4.size
    have hs3:=hb.size
    have hlt3 : gp < W3.drew.heap.size:=Nat.lt_of_lt_of_le hg.2 hs3
    refine ⟨w4,hst,blk_cell h3.box 1,blk_cell hp3 0,blk_cell hp3 1,h3d.turnH hg4 hm4,(hg4.block gp hlt3 (fun e=>?_)).trans hp3,by omega⟩
    have:=Option.some.inj e
    omega
   subst hgh
   go_wp2_with (go_at_call 101;(with_reducible refine CM.out.mono ?_);rintro e W3 ⟨rfl,b3⟩;obtain ⟨w4,hst,d1,d2,d3,m4,q4,l4⟩:=ST.out W3 b3;have HT4:=hid m4;have HQ4:=hid q4;have HL4:=hid l4;clear b3 m4 q4 l4)
   go_region
   have CJ:=hid (ejoin_any (O:=hpO os) x y HX.out HY.out w4 HT4.out HMG.out.fo (by omega))
   clear ST hst d1 d2 d3
   by_cases hrr : S.root x = S.root y
   ·have ed : decide (S.root x ≠ S.root y) = false := decide_eq_false (fun e => e hrr)
    rw [ed] at CJ
    have HRR:=hid hrr
    clear hrr ed hmay hnm hql hhl
    go_wp2_with (go_at_call 102;(with_reducible refine CJ.out.mono ?_);rintro e W5 ⟨rfl,j5,_⟩;unfold JPost at j5;rw [if_pos HRR.out] at j5;have HJ:=hid j5;clear j5)
    obtain ⟨L',d',m5,f5⟩:=HJ.out
    go_ret
    exact ⟨true,rfl,⟨S.root,d',L',S.q,S.hq ++ [(x,y)],S.op,S.G,S.vO⟩,⟨m5,HMG.out.same HMAY.out HX.out HY.out HNM.out HRR.out f5⟩,fun _ _ e=>e,fun _=>HRR.out,fun e=>(by cases e)⟩
   ·have ed : decide (S.root x ≠ S.root y) = true := decide_eq_true hrr
    rw [ed] at CJ
    have HRR:=hid hrr
    clear hrr ed hmay hnm
    go_wp2_with (go_at_call 102;(with_reducible refine CJ.out.mono ?_);rintro e W5 ⟨rfl,j5,g5⟩;have h5:=(g5.2 gp HL4.out (by have:=HG2.out;omega)).trans HQ4.out;unfold JPost at j5;rw [if_neg HRR.out] at j5;obtain ⟨L',d',m5,nq5,u5,f5⟩:=j5;have HT5:=hid m5;have HN5:=hid nq5;have HU5:=hid u5;have HF5:=hid f5;have HE5:=hid h5;clear m5 nq5 u5 f5 h5)
    have hol : S.op.length <= 10000000:=by
     have h1:=HMG.out.me
     omega
    obtain ⟨aO,cO,hvo,hoc,hom⟩:=slice_form HT5.out.ow
    rw [hvo] at HT5
    have k3 : W5.cell? ⟨bA + 2,3,none⟩ = some (.slice aO S.op.length cO):=blk_cell HT5.out.box 3
    have k0 : W5.cell? ⟨gp,0,none⟩ = some (.int .u64 x):=blk_cell HE5.out 0
    have k1 : W5.cell? ⟨gp,1,none⟩ = some (.int .u64 y):=blk_cell HE5.out 1
    have n3 : ∀ ob,(W5.alloc ob).cell? ⟨bA + 2,3,none⟩ = some (.slice aO S.op.length cO):=fun ob=>blk_cell (HT5.out.on (Ba W5 ob)).box 3
    have h6:=HT5.out.on (Bt (Ba W5 (.cells #[.int .u64 x,.int .u64 y] 115)) (Bd _ 1))
    have hd6 : ((W5.alloc (.cells #[.int .u64 x,.int .u64 y] 115)).drew).heap[W5.heap.size]? = some (.cells #[.int .u64 x,.int .u64 y] 115 (0,0)):=blk_new _ _ _
    have HOW:=hid h6.ow
    have HD6:=hid hd6
    have HB6 : Hid (bA + 3 <= ((W5.alloc (.cells #[.int .u64 x,.int .u64 y] 115)).drew).heap.size):=h6.lt
    have HPU : Hid (∀ (g cap : Nat) (w' : World),w'.ownsRow (bA + 3) 115 2 (.slice (some ⟨g,0,none⟩) (S.op.length + 1) cap) (S.op.length + 1) (pz (S.op ++ [(x,y)])) -> ((W5.alloc (.cells #[.int .u64 x,.int .u64 y] 115)).drew).grownBy w' (Value.slice aO S.op.length cO).ownBlock -> ((Value.slice aO S.op.length cO).ownBlock = some g \/ g = ((W5.alloc (.cells #[.int .u64 x,.int .u64 y] 115)).drew).heap.size) -> MT bA w0 (.pointer (some ⟨gh,0,none⟩)) (.slice (some ⟨g,0,none⟩) (S.op.length + 1) cap) (S.q ++ [S.root y]) L' (S.hq ++ [(x,y)]) (S.op ++ [(x,y)]) (w'.setCell ⟨bA + 2,3,none⟩ (.slice (some ⟨g,0,none⟩) (S.op.length + 1) cap)) /\ w'.cell? ⟨bA + 2,3,none⟩ = some (.slice aO S.op.length cO) /\ w'.frozen? ⟨bA + 2,3,none⟩ = false):=fun g cap w' ho hg hl=>h6.push (g:=g) (cap:=cap) (w':=w') (op':=S.op ++ [(x,y)]) List.length_append ho hg hl
    obtain ⟨nO,hnO⟩ : ∃ n,n = S.op.length:=⟨_,rfl⟩
    rw [<- hnO] at k3 n3 HOW HPU hol hoc
    clear h6 hd6 hvo hnO
    go_region_law ((refine stepPair (some 51) (by rfl) (by rfl) _ _ 111 (by rfl) (bA + 3) 115 Tryz.underlying111 info_pair (.slice aO nO cO) nO S.op (by simp [Act.eval,Act.put]) HOW.out W5.heap.size 1 (x,y) (by simp [Act.eval,Act.put]) HD6.out hol HB6.out ?_;intro g7 cap7 w7 ho7 hg7 hl7 hlt7;obtain ⟨p7,c7,f7⟩:=HPU.out g7 cap7 w7 ho7 hg7 hl7;have HP7:=hid p7;clear p7 ho7 hg7 hl7 hlt7))
    go_wp2_with fail
    all_goals
     go_ret
     exact ⟨true,rfl,⟨joined S.root (S.root x) (S.root y),d',L',S.q ++ [S.root y],S.hq ++ [(x,y)],S.op ++ [(x,y)],(x,y) :: S.G,.slice (some ⟨g7,0,none⟩) (nO + 1) cap7⟩,⟨HP7.out,HMG.out.join _ hus HMAY.out HX.out HY.out HU5.out HNM.out HRR.out HN5.out HF5.out HAL.out⟩,fun u z e=>joined_mono u z e,fun _=>(HMG.out.uf.join (may_ow HMAY.out).1 (may_ow HMAY.out).2 HRR.out).rel (x,y) List.mem_cons_self,fun e=>(by cases e)⟩
 ·have hmem : (x, y) ∈ S.hq := of_decide_eq_true HBH.out.symm
  have HR:=hid (HMG.out.hd _ hmem)
  clear hmem
  go_wp2_with fail
  go_ret
  exact ⟨true,rfl,S,⟨HT2.out,HMG.out⟩,fun _ _ e=>e,fun _=>HR.out,fun e=>(by cases e)⟩
end
theorem MZ.on {os : List Ob} {a0 b0 : Int} {cur : Int × Int -> Prop} {M b : Nat} {w0 w w' : World} {v : Value} {S : US} (h : MZ os a0 b0 cur M b w0 v S w) (hb : Below w.heap.size w w') : MZ os a0 b0 cur M b w0 v S w':=⟨h.mt.on hb,h.mg⟩
def AfEnd (os : List Ob) (a0 b0 : Int) (cur : Int × Int -> Prop) (M b : Nat) (w0 : World) (v : Value) (S : US) (f g : List Int) (x y : Int) (e : Ending) (w' : World) : Prop :=
 ∃ bb,e = .returned (.bool bb) /\ ∃ S',MZ os a0 b0 cur M b w0 v S' w' /\ (∀ u z,S.root u = S.root z -> S'.root u = S'.root z) /\ (bb = true -> ∀ j,j < f.length -> S'.root (f.getD j 0) = S'.root (g.getD j 0)) /\ (bb = false -> ¬ Alike (hpO os) x y)
section
variable {B : Nat} {v : Value} {N : Int} {os : List Ob} {F : Nat -> Prop} {a0 b0 : Int} {cur : Int × Int -> Prop} {M : Nat} {w0 : World} {S : US}
set_option maxHeartbeats 8000000 in
theorem emeets_any (a b : Int) (ha : U64 a) (hb : U64 b) (w : World) (h0 : HE B v N os F w0) (h : MZ os a0 b0 cur M w0.heap.size w0 v S w) {i k : Nat} (hi : findM os a = some i) (hk : findM os b = some k) (hlen : (os.getD i default).f.length = (os.getD k default).f.length)
  (hka : Alike (hpO os) a b -> ∀ j,j < (os.getD i default).f.length -> Alike (hpO os) ((os.getD i default).f.getD j 0) ((os.getD k default).f.getD j 0)) (hal : Alike (hpO os) a0 b0 -> Alike (hpO os) a b) (hMM : M <= 10000000) :
  Calls Tryz.prog 103 #[v,.int .u64 a,.int .u64 b,.func (.func 56) #[.pointer (some ⟨w0.heap.size + 2,0,none⟩)] #[]] w (AfEnd os a0 b0 cur M w0.heap.size w0 v S (os.getD i default).f (os.getD k default).f a b):=by
 have hl1:=at_lt (findM_lt hi).1
 have hus:=h0.used
 have hu1:=h0.fine.uf _ (getD_in_os (findM_lt hi).1)
 have hu2:=h0.fine.uf _ (getD_in_os (findM_lt hk).1)
 have K1 : Hid (∀ (j : Nat) W,j <= (os.getD i default).f.length -> Below w0.heap.size w0 W -> Calls Tryz.prog 155 #[v,.int .u64 a,.int .i64 j] W fun e w'=>∃ z,e = .returned (.tuple #[.int .u64 z,.bool (decide (j < (os.getD i default).f.length))]) /\ (j < (os.getD i default).f.length -> z = (os.getD i default).f.getD j 0) /\ Below W.heap.size W w'):=fun j W hj hW=>by
  refine (efield_any a j ha (by unfold Z64;omega) W (h0.on hW)).mono ?_
  rintro e w' ⟨rfl,hb⟩
  by_cases e : j < (os.getD i default).f.length
  ·rw [gete_at hi e,decide_eq_true e];exact ⟨_,rfl,fun _=>rfl,hb⟩
  ·rw [get_out hi (by omega),decide_eq_false e];exact ⟨_,rfl,fun h=>absurd h e,hb⟩
 have K2 : Hid (∀ (j : Nat) W,j <= (os.getD k default).f.length -> Below w0.heap.size w0 W -> Calls Tryz.prog 155 #[v,.int .u64 b,.int .i64 j] W fun e w'=>∃ z,e = .returned (.tuple #[.int .u64 z,.bool (decide (j < (os.getD k default).f.length))]) /\ (j < (os.getD k default).f.length -> z = (os.getD k default).f.getD j 0) /\ Below W.heap.size W w'):=fun j W hj hW=>by
  refine (efield_any b j hb (by unfold Z64;omega) W (h0.on hW)).mono ?_
  rintro e w' ⟨rfl,hb⟩
  by_cases e : j < (os.getD k default).f.length
  ·rw [gete_at hk e,decide_eq_true e];exact ⟨_,rfl,fun _=>rfl,hb⟩
  ·rw [get_out hk (by omega),decide_eq_false e];exact ⟨_,rfl,fun h=>absurd h e,hb⟩
 have CM : Hid (∀ (S' : US) (x y : Int) (W : World),U64 x -> U64 y -> MZ os a0 b0 cur M w0.heap.size w0 v S' W -> (Alike (hpO os) a0 b0 -> Alike (hpO os) x y) -> Calls Tryz.prog 56 #[.pointer (some ⟨w0.heap.size + 2,0,none⟩),.int .u64 x,.int .u64 y] W (MeEnd os a0 b0 cur M w0.heap.size w0 v S' x y)):=fun S' x y W hx hy hz hh=>emeet_any x y hx hy W h0 hz hh hMM
 obtain ⟨gh,rfl⟩:=h0.ph.ptr
 obtain ⟨f,hf⟩ : ∃ f,f = (os.getD i default).f:=⟨_,rfl⟩
 obtain ⟨g,hg⟩ : ∃ f,f = (os.getD k default).f:=⟨_,rfl⟩
 rw [<- hf] at K1 hl1 hu1 hlen hka
 rw [<- hg] at K2 hu2 hlen hka
 rw [<- hf,<- hg]
 have HL:=hid hlen
 have HU1:=hid hu1
 have HU2:=hid hu2
 have HKA:=hid hka
 have HAL:=hid hal
 have HZ:=hid h
 obtain ⟨nf,hnf⟩ : ∃ n,n = f.length:=⟨_,rfl⟩
 rw [<- hnf] at K1 hl1 hlen
 rw [<- hlen] at K2
 have HNF:=hid hnf
 have hm1 : nf <= 4194304:=by omega
 obtain ⟨bA,hbA⟩ : ∃ b,b = w0.heap.size:=⟨_,rfl⟩
 rw [<- hbA] at K1 K2 CM HZ ⊢
 clear h h0 hi hk hf hg ha hb hnf hlen hl1 hus hu1 hu2 hka hal hbA
 go_enter Tryz.func103,Tryz.ntmps103
 go_wp2_with fail
 go_loopw [9] (fun i wr=>∃ q : Nat,q <= nf /\ i = .int .i64 q /\ Hid (∃ S',MZ os a0 b0 cur M bA w0 (.pointer (some ⟨gh,0,none⟩)) S' wr /\ (∀ u z,S.root u = S.root z -> S'.root u = S'.root z) /\ ∀ j,j < q -> S'.root (f.getD j 0) = S'.root (g.getD j 0))) (fun i _=>nf - (intOf i).toNat)
 case atStart=>exact ⟨0,Nat.zero_le _,rfl,S,HZ.out,fun _ _ e=>e,fun j hj=>by omega⟩
 case round =>
  obtain ⟨q,hq,rfl,hI⟩:=hrel
  obtain ⟨S',hz,hmo,hro⟩:=hI.out
  have HZ1:=hid hz
  have HMO:=hid hmo
  have HRO:=hid hro
  have HBR : Hid (Below bA w0 wr):=hz.mt.bel
  clear hI hz hmo hro
  have C1:=hid (K1.out q wr hq HBR.out)
  have C2 : Hid (∀ W,Below wr.heap.size wr W -> _):=fun W hW=>K2.out q W hq (HBR.out.trans (hW.mono (by have:=HZ1.out.mt.lt;omega)))
  by_cases hlt : q < nf
  ·have hltf : q < f.length := by rw [<- HNF.out]; exact hlt
   have x1u:=HU1.out _ (getD_in_f hltf)
   have x2u:=HU2.out _ (getD_in_f (l:=g) (i:=q) (by rw [<- HL.out];exact hltf))
   have hax : Alike (hpO os) a0 b0 -> Alike (hpO os) (f.getD q 0) (g.getD q 0):=fun e=>HKA.out (HAL.out e) q hltf
   have C3 : Hid (∀ W,Below wr.heap.size wr W -> _):=fun W hW=>CM.out S' (f.getD q 0) (g.getD q 0) W x1u x2u (HZ1.out.on hW) hax
   have hnot : Hid (¬ Alike (hpO os) (f.getD q 0) (g.getD q 0) -> ¬ Alike (hpO os) a b):=fun hn e=>hn (HKA.out e q hltf)
   rw [decide_eq_true hlt] at C1 C2
   have hstep : Hid (∀ S2 : US,(∀ u z,S'.root u = S'.root z -> S2.root u = S2.root z) -> S2.root (f.getD q 0) = S2.root (g.getD q 0) -> ∀ j,j < q + 1 -> S2.root (f.getD j 0) = S2.root (g.getD j 0)):=fun S2 h1 h2 j hj=>by
    by_cases e : j = q
    ·subst e;exact h2
    ·exact h1 _ _ (HRO.out j (by omega))
   obtain ⟨x1,hx1⟩ : ∃ x,x = f.getD q 0:=⟨_,rfl⟩
   obtain ⟨x2,hx2⟩ : ∃ x,x = g.getD q 0:=⟨_,rfl⟩
   rw [<- hx1] at C1 C3 hnot hstep
   rw [<- hx2] at C2 C3 hnot hstep
   clear hx1 hx2 hax x1u x2u hltf
   go_wp2_with (first
    | (go_at_call 155;(with_reducible refine C1.out.mono ?_);rintro e W1 ⟨z1,rfl,hz1,b1⟩;obtain rfl:=hz1 hlt;have HB1:=hid b1;clear b1 hz1)
    | (go_at_call 155;(with_reducible refine (C2.out W1 HB1.out).mono ?_);rintro e W2 ⟨z2,rfl,hz2,b2⟩;obtain rfl:=hz2 hlt;have HB2:=hid (HB1.out.trans (b2.mono HB1.out.size));have C4:=hid (C3.out W2 HB2.out);clear b2 hz2)
    | (go_at_call 56;(with_reducible refine C4.out.mono ?_);rintro e W3 ⟨bb,rfl,S2,m3,k3,t3,n3⟩;have HM3:=hid m3;have HK3:=hid k3;have HT3:=hid t3;have HN3:=hid n3;clear m3 k3 t3 n3))
   ·rename_i hbb
    obtain rfl : bb = false:=by simpa using hbb
    go_ret
    exact ⟨false,rfl,S2,HM3.out,fun u z e=>HK3.out u z (HMO.out u z e),fun e=>(by cases e),fun _=>hnot.out (HN3.out rfl)⟩
   ·rename_i hbb
    obtain rfl : bb = true:=by simpa using hbb
    exact ⟨⟨q + 1,by omega,by go_num,S2,HM3.out,fun u z e=>HK3.out u z (HMO.out u z e),hstep.out S2 HK3.out (HT3.out rfl)⟩,by simp [intOf] <;> omega⟩
  ·obtain rfl : nf = q := by omega
   rw [decide_eq_false hlt] at C1 C2
   go_wp2_with (first
    | (go_at_call 155;(with_reducible refine C1.out.mono ?_);rintro e W1 ⟨z1,rfl,hz1,b1⟩;have HB1:=hid b1;clear b1 hz1)
    | (go_at_call 155;(with_reducible refine (C2.out W1 HB1.out).mono ?_);rintro e W2 ⟨z2,rfl,hz2,b2⟩;have HB2:=hid (HB1.out.trans (b2.mono HB1.out.size));clear b2 hz2))
   go_ret
   exact ⟨true,rfl,S',HZ1.out.on HB2.out,HMO.out,fun _ j hj=>HRO.out j (by rw [HNF.out];exact hj),fun e=>(by cases e)⟩
end
theorem u8n {n : Nat} (h : n < 256) : (UInt8.ofNat n).toNat = n:=by rw [UInt8.toNat_ofNat'];exact Nat.mod_eq_of_lt h
theorem letB_rng {c : Nat} (h : letB (c : Int) = true) : c <= 1114111 /\ (c < 55296 \/ 57343 < c):=by
 unfold letB at h
 simp only [Bool.and_eq_true,Bool.or_eq_true,decide_eq_true_eq] at h
 omega
theorem enc_1 {c : Nat} (h : letB (c : Int) = true) (h1 : c < 128) : (Utf8.encode (c : Int)).data.toList = [UInt8.ofNat c]:=by
 have hv : Utf8.valid (c : Int) = true:=by rw [<- letB_valid];exact h
 unfold Utf8.encode
 simp only [hv,if_true,Int.toNat_natCast]
 rw [if_pos h1]
theorem enc_2 {c : Nat} (h : letB (c : Int) = true) (h1 : 128 <= c) (h2 : c < 2048) : (Utf8.encode (c : Int)).data.toList = [UInt8.ofNat (192 + c / 64),UInt8.ofNat (128 + c % 64)]:=by
 have hv : Utf8.valid (c : Int) = true:=by rw [<- letB_valid];exact h
 unfold Utf8.encode
 simp only [hv,if_true,Int.toNat_natCast]
 rw [if_neg (by omega),if_pos h2]
theorem enc_3 {c : Nat} (h : letB (c : Int) = true) (h1 : 2048 <= c) (h2 : c < 65536) : (Utf8.encode (c : Int)).data.toList = [UInt8.ofNat (224 + c / 4096),UInt8.ofNat (128 + c / 64 % 64),UInt8.ofNat (128 + c % 64)]:=by
 have hv : Utf8.valid (c : Int) = true:=by rw [<- letB_valid];exact h
 unfold Utf8.encode
 simp only [hv,if_true,Int.toNat_natCast]
 rw [if_neg (by omega),if_neg (by omega),if_pos h2]
theorem enc_4 {c : Nat} (h : letB (c : Int) = true) (h1 : 65536 <= c) : (Utf8.encode (c : Int)).data.toList = [UInt8.ofNat (240 + c / 262144),UInt8.ofNat (128 + c / 4096 % 64),UInt8.ofNat (128 + c / 64 % 64),UInt8.ofNat (128 + c % 64)]:=by
 have hv : Utf8.valid (c : Int) = true:=by rw [<- letB_valid];exact h
 unfold Utf8.encode
 simp only [hv,if_true,Int.toNat_natCast]
 rw [if_neg (by omega),if_neg (by omega),if_neg (by omega)]
theorem dec_enc {c : Nat} (h : letB (c : Int) = true) (rest : List UInt8) : Lib.decodeL ((Utf8.encode (c : Int)).data.toList ++ rest) = (c,(Utf8.encode (c : Int)).data.toList.length):=by
 have hb:=letB_rng h
 rw [Lib.decodeL_N]
 by_cases h1 : c < 128
 ·rw [enc_1 h h1]
  show Lib.decodeN _ (UInt8.ofNat c).toNat _ _ _ = (c,1)
  rw [u8n (by omega)]
  unfold Lib.decodeN
  rw [if_pos h1]
 by_cases h2 : c < 2048
 ·rw [enc_2 h (by omega) h2]
  show Lib.decodeN _ (UInt8.ofNat (192 + c / 64)).toNat (UInt8.ofNat (128 + c % 64)).toNat _ _ = (c,2)
  rw [u8n (by omega),u8n (by omega)]
  unfold Lib.decodeN
  rw [if_neg (by omega),if_pos ⟨by omega,by simp,by omega⟩,if_pos (by omega)]
  congr 1;omega
 by_cases h3 : c < 65536
 ·rw [enc_3 h (by omega) h3]
  show Lib.decodeN _ (UInt8.ofNat (224 + c / 4096)).toNat (UInt8.ofNat (128 + c / 64 % 64)).toNat (UInt8.ofNat (128 + c % 64)).toNat _ = (c,3)
  rw [u8n (by omega),u8n (by omega),u8n (by omega)]
  unfold Lib.decodeN
  rw [if_neg (by omega),if_neg (by omega),if_pos ⟨by omega,⟨by simp,by omega⟩,by simp,by omega⟩,if_pos (by omega)]
  congr 1;omega
 ·rw [enc_4 h (by omega)]
  show Lib.decodeN _ (UInt8.ofNat (240 + c / 262144)).toNat (UInt8.ofNat (128 + c / 4096 % 64)).toNat (UInt8.ofNat (128 + c / 64 % 64)).toNat (UInt8.ofNat (128 + c % 64)).toNat = (c,4)
  rw [u8n (by omega),u8n (by omega),u8n (by omega),u8n (by omega)]
  unfold Lib.decodeN
  rw [if_neg (by omega),if_neg (by omega),if_neg (by omega),if_pos ⟨by omega,⟨by simp,by omega⟩,⟨by simp,by omega⟩,by simp,by omega⟩,if_pos (by omega)]
  congr 1;omega
theorem enc_len {c : Nat} (h : letB (c : Int) = true) : 1 <= (Utf8.encode (c : Int)).data.toList.length /\ (Utf8.encode (c : Int)).data.toList.length <= 4:=by
 by_cases h1 : c < 128
 ·rw [enc_1 h h1];simp
 by_cases h2 : c < 2048
 ·rw [enc_2 h (by omega) h2];simp
 by_cases h3 : c < 65536
 ·rw [enc_3 h (by omega) h3];simp
 ·rw [enc_4 h (by omega)];simp
theorem enc_is {c : Nat} (h : letB (c : Int) = true) : (Utf8.encode (c : Int)).data.toList = Lib.encodeRune (c : Int):=by
 have hb:=letB_rng h
 unfold Lib.encodeRune
 by_cases h1 : c < 128
 ·rw [enc_1 h h1,Lib.encodeRuneZ_one (by omega) (by omega)];simp
 by_cases h2 : c < 2048
 ·rw [enc_2 h (by omega) h2, Lib.encodeRuneZ_two (by omega) (by omega)]
  simp only [List.map_cons,List.map_nil]
  rw [show (192 + (c : Int) / 64).toNat = 192 + c / 64 by omega,show (128 + (c : Int) % 64).toNat = 128 + c % 64 by omega]
 by_cases h3 : c < 65536
 ·rw [enc_3 h (by omega) h3, Lib.encodeRuneZ_three (by omega)]
  simp only [List.map_cons,List.map_nil]
  rw [show (224 + (c : Int) / 4096).toNat = 224 + c / 4096 by omega,show (128 + (c : Int) / 64 % 64).toNat = 128 + c / 64 % 64 by omega,show (128 + (c : Int) % 64).toNat = 128 + c % 64 by omega]
 ·rw [enc_4 h (by omega), Lib.encodeRuneZ_four (by omega) (by omega)]
  simp only [List.map_cons,List.map_nil]
  rw [show (240 + (c : Int) / 262144).toNat = 240 + c / 262144 by omega,show (128 + (c : Int) / 4096 % 64).toNat = 128 + c / 4096 % 64 by omega,show (128 + (c : Int) / 64 % 64).toNat = 128 + c / 64 % 64 by omega,show (128 + (c : Int) % 64).toNat = 128 + c % 64 by omega]
def spelt (l : List Nat) : List UInt8:=l.flatMap (fun c : Nat=>(Utf8.encode (c : Int)).data.toList)
theorem spelt_valid : ∀ {l : List Nat},(∀ c∈l,letB (c : Int) = true) -> Lib.validD (spelt l) = true
 | [],_=>Lib.validD_nil
 | c :: l, h => by
  have hc:=h c List.mem_cons_self
  have hl:=enc_len hc
  have ih:=spelt_valid (l:=l) (fun x hx=>h x (List.mem_cons_of_mem _ hx))
  have e : spelt (c :: l) = (Utf8.encode (c : Int)).data.toList ++ spelt l:=rfl
  rw [e,Lib.validD_step _ (by intro e2;have:=congrArg List.length e2;simp only [List.length_append,List.length_nil] at this;omega),dec_enc hc,if_neg,List.drop_left]
  ·exact ih
  ·rintro ⟨e1, e2⟩
   simp only at e1 e2
   subst e1
   rw [enc_3 hc (by omega) (by omega)] at e2
   simp at e2
theorem count_from (s : ByteArray) (f p : Nat) : Lib.runeCountFrom s (f + 1) p = if p < s.size then 1 + Lib.runeCountFrom s f (p + (Utf8.decode s p).2) else 0:=rfl
theorem spelt_from {s : ByteArray} : ∀ {l : List Nat} {p f : Nat},(∀ c∈l,letB (c : Int) = true) -> s.data.toList.drop p = spelt l -> l.length <= f -> Lib.runeCountFrom s f p = l.length
 | [],p,f,_,e,_=>by
  refine Lib.runeCountFrom_end s f p (fun h=>?_)
  have:=congrArg List.length e
  rw [List.length_drop] at this
  have h2 : s.data.toList.length = s.size:=rfl
  simp [spelt] at this
  omega
 | c :: l,p,0,_,_,h=>by simp at h
 | c :: l, p, f + 1, h, e, hf => by
  have hc:=h c List.mem_cons_self
  have hl:=enc_len hc
  have e2 : spelt (c :: l) = (Utf8.encode (c : Int)).data.toList ++ spelt l:=rfl
  rw [e2] at e
  have h2 : s.data.toList.length = s.size:=rfl
  have hlen:=congrArg List.length e
  rw [List.length_drop,List.length_append] at hlen
  have hd : Utf8.decode s p = (c,(Utf8.encode (c : Int)).data.toList.length):=by
   rw [<- Lib.decodeL_drop,e,dec_enc hc]
  rw [count_from,if_pos (by omega),hd]
  have ih:=spelt_from (s:=s) (l:=l) (p:=p + (Utf8.encode (c : Int)).data.toList.length) (f:=f) (fun x hx=>h x (List.mem_cons_of_mem _ hx)) (by
   rw [<- List.drop_drop,e,List.drop_left]) (by simpa using hf)
  rw [ih,List.length_cons];omega
theorem spelt_len : ∀ {l : List Nat},(∀ c∈l,letB (c : Int) = true) -> l.length <= (spelt l).length
 | [],_=>Nat.le_refl _
 | c :: l,h=>by
  have hl:=enc_len (h c List.mem_cons_self)
  have ih:=spelt_len (l:=l) (fun x hx=>h x (List.mem_cons_of_mem _ hx))
  have e2 : spelt (c :: l) = (Utf8.encode (c : Int)).data.toList ++ spelt l:=rfl
  rw [e2,List.length_append,List.length_cons];omega
theorem spelt_count {s : ByteArray} {l : List Nat} (h : ∀ c∈l,letB (c : Int) = true) (e : s.data.toList = spelt l) : Lib.runeCount s = l.length :=
 spelt_from (s:=s) (p:=0) h (by rw [List.drop_zero];exact e) (by
  have h2 : s.data.toList.length = s.size:=rfl
  have:=spelt_len h
  rw [<- e] at this;omega)
theorem told_spelt {s : ByteArray} : ∀ {f p : Nat},Lib.validD (s.data.toList.drop p) = true -> s.size <= p + f ->
  ∃ l : List Nat,ltF s f p = l.map (fun c : Nat=>(c : Int)) /\ (∀ c∈l,letB (c : Int) = true) /\ s.data.toList.drop p = spelt l
 | 0, p, _, hs => ⟨[], rfl, fun c hc => (by cases hc), (by
   have h2 : s.data.toList.length = s.size:=rfl
   rw [List.drop_eq_nil_of_le (by omega)];rfl)⟩
 | f + 1, p, hv, hs => by
  have h2 : s.data.toList.length = s.size:=rfl
  by_cases hp : p < s.size
  ·have hne : s.data.toList.drop p ≠ [] := by
    intro e;have:=congrArg List.length e;rw [List.length_drop] at this;simp only [List.length_nil] at this;omega
   rw [Lib.validD_step _ hne,Lib.decodeL_drop] at hv
   by_cases hb : (Utf8.decode s p).1 = 65533 /\ (Utf8.decode s p).2 = 1
   ·rw [if_pos hb] at hv;cases hv
   ·rw [if_neg hb] at hv
    have hne2 : ¬ Utf8.decode s p = (65533,1):=fun e=>hb (by rw [e];exact ⟨rfl,rfl⟩)
    have er : runeD s p = Utf8.decode s p:=by unfold runeD;rw [if_neg hne2]
    have hw:=decode_le s p
    rw [List.drop_drop] at hv
    obtain ⟨l,e1,e2,e3⟩:=told_spelt (s:=s) (f:=f) (p:=p + (Utf8.decode s p).2) hv (by omega)
    have hlet : letB ((Utf8.decode s p).1 : Int) = true:=by
     have hd : Utf8.decode s p = Lib.decodeL (s.data.toList.drop p):=(Lib.decodeL_drop s p).symm
     have:=Lib.decodeN_valid (s.data.toList.drop p).length ((s.data.toList.drop p).getD 0 0).toNat ((s.data.toList.drop p).getD 1 0).toNat ((s.data.toList.drop p).getD 2 0).toNat ((s.data.toList.drop p).getD 3 0).toNat (UInt8.toNat_lt _)
     rw [<- Lib.decodeL_N,<- hd] at this
     unfold letB
     simp only [Bool.and_eq_true,Bool.or_eq_true,decide_eq_true_eq]
     omega
    refine ⟨(Utf8.decode s p).1 :: l,?_,?_,?_⟩
    ·unfold ltF
     rw [if_pos hp,er,show max 1 (Utf8.decode s p).2 = (Utf8.decode s p).2 by omega,e1];rfl
    ·intro c hc
     rcases List.mem_cons.1 hc with rfl | hc
     ·exact hlet
     ·exact e2 c hc
    ·have e4 : spelt ((Utf8.decode s p).1 :: l) = (Utf8.encode ((Utf8.decode s p).1 : Int)).data.toList ++ spelt l := rfl
     rw [e4,<- e3]
     have h5:=Lib.encode_decode (s.data.toList.drop p) hne (by rw [Lib.decodeL_drop];exact hb)
     rw [Lib.decodeL_drop] at h5
     have h6 : (Utf8.encode ((Utf8.decode s p).1 : Int)).data.toList = Lib.encodeRune ((Utf8.decode s p).1 : Int):=enc_is hlet
     rw [h6,h5,<- List.drop_drop,List.take_append_drop]
  ·refine ⟨[], ?_, fun c hc => (by cases hc), ?_⟩
   ·unfold ltF;rw [if_neg hp];rfl
   ·rw [List.drop_eq_nil_of_le (by omega)];rfl
end Go.Proofs.YticimejfjjmikaaGreatDoor
