import Derived.Test.YticimejfjjmikaaGreatDoorRows
import Derived.Test.YticimejfjjmikaaGreatDoorQ1
import Derived.ProofKit
import Derived.OpenShut
import Derived.ShutString
import Derived.ChangeOld
import Derived.Below
import Derived.Lib.SmallJoins
import Derived.Deep.Slices
set_option linter.unusedVariables false
set_option linter.unusedSimpArgs false
set_option maxRecDepth 100000
namespace Go.Proofs.YticimejfjjmikaaGreatDoor
open Go.ChangeShapes Go.WideShapes Go.ChangeAt Go.RowKit Go.Joins Go.Deep
theorem own : ownKnob Tryz.prog.godebug = none:=by kernel_rfl
theorem laidOut : laidOutB Tryz.prog = true:=by kernel_rfl
theorem cellsGraph : Tryz.prog.cellsOf 34 = 2:=by kernel_rfl
theorem cellsNode : Tryz.prog.cellsOf 54 = 4:=by kernel_rfl
theorem cellsI : Tryz.prog.cellsOf 3 = 1:=by kernel_rfl
theorem cellsS : Tryz.prog.cellsOf 9 = 1:=by kernel_rfl
theorem cellsIs : Tryz.prog.cellsOf 32 = 1:=by kernel_rfl
theorem addp (b o k : Nat) : Addr.add ⟨b,o,none⟩ k = ⟨b,o + k,none⟩:=by
 unfold Addr.add
 by_cases h : k = 0
 ·subst h;simp
 ·rw [if_neg h]
theorem plain_of {W : World} {a : Addr} {v : Value} (h : W.cell? a = some v) : ∃ b o,a = ⟨b,o,none⟩ /\ b < W.heap.size:=by
 obtain ⟨bb,o,sp⟩:=a
 have hsp : sp = none:=by
  cases sp with
  | none=>rfl
  | some k =>
   exfalso
   simp [World.cell?] at h
   split at h <;> simp_all
 subst hsp
 exact ⟨bb,o,rfl,World.block_lt_of_cell? W ⟨bb,o,none⟩ h⟩
theorem add0 (a : Addr) : a.add 0 = a:=by simp [Addr.add]
section
variable {H : Type} {enc : TypeId × Value -> H} {W : World} {base : Nat} {spare : Nat -> Bool} {held : Bool}
theorem ints_arg {fuel : Nat} {cs : List Value} {y : DataW H × List MemPlace} (h : DataW.trod enc Tryz.prog W base spare held fuel 32 cs = some y) : ∃ ao n cap l,cs = [.slice ao n cap] /\ IRow W ao n cap l:=by
 rcases open_ints Tryz.underlying32 Tryz.underlying3 cellsI h with ⟨rfl,_⟩ | ⟨a,len,cap,zs,rfl,_,hl,hm,hz,_,hcell,hwz⟩
 ·exact ⟨none,0,0,[],rfl,IRow.nil _ _⟩
 ·have hzl : len <= zs.length := by rw [hz]; split <;> omega
  have hlen : (zs.take len).length = len:=by rw [List.length_take,Nat.min_eq_left hzl]
  refine ⟨some a,len,cap,zs.take len,rfl,hlen,hl,hm,fun h=>(by cases h),?_,?_⟩
  ·intro z hz'
   have:=bounds_i64 (hwz z (List.mem_of_mem_take hz'))
   unfold I64;omega
  ·by_cases h0 : len = 0
   ·subst h0;exact .inl (by simp)
   ·have hc0 := hcell 0 (by omega)
    rw [add0] at hc0
    obtain ⟨bb,o,rfl,hlt⟩:=plain_of hc0
    refine .inr ⟨bb,o,rfl,hlt,fun i hi=>?_⟩
    rw [hlen] at hi
    have hci:=hcell i (by omega)
    rw [addp] at hci
    rw [hci,List.getD_eq_getElem?_getD,List.getD_eq_getElem?_getD,List.getElem?_take,if_pos hi]
theorem node_arg {n : Nat} {cs : List Value} {y : DataW H × List MemPlace} {b k : Nat} (hc : W.cells? base ⟨b,k,none⟩ 4 = some cs) (h : DataW.trod enc Tryz.prog W base spare held n 54 cs = some y) : ∃ d,NdAt W b k d /\ NdOk d:=by
 obtain ⟨_,hlen,hcell⟩:=World.cells?_some hc
 obtain ⟨xs,m,hm,hxy,_,hxl,hf⟩:=DataW.trod_struct Tryz.underlying54 h
 match xs,hxl,cs,hlen with
 | [y0,y1,y2,y3],_,[v0,v1,v2,v3],_ =>
  have g0:=hf 0 _ rfl
  have g1:=hf 1 _ rfl
  have g2:=hf 2 _ rfl
  have g3:=hf 3 _ rfl
  simp [cellsI,cellsS,cellsIs] at g0 g1 g2 g3
  have e0:=hcell 0 (by omega)
  have e1:=hcell 1 (by omega)
  have e2:=hcell 2 (by omega)
  have e3:=hcell 3 (by omega)
  rw [addp] at e0 e1 e2 e3
  obtain ⟨z0,q0,_,w0⟩:=DataW.trod_int Tryz.underlying3 g0
  obtain ⟨z1,q1,_,w1⟩:=DataW.trod_int Tryz.underlying3 g1
  obtain ⟨s,q2,_,w2⟩:=DataW.trod_string Tryz.underlying9 g2
  obtain ⟨ao,nk,ck,l,q3,hI⟩:=ints_arg g3
  cases q0;cases q1;cases q2;cases q3
  have b0:=bounds_i64 w0
  have b1:=bounds_i64 w1
  exact ⟨⟨z0,z1,s,l⟩,⟨by simpa using e0,by simpa using e1,by simpa using e2,ao,nk,ck,by simpa using e3,hI⟩,⟨by unfold I64;omega,by unfold I64;omega,w2⟩⟩
theorem nodes_arg {fuel : Nat} {cs : List Value} {y : DataW H × List MemPlace} (h : DataW.trod enc Tryz.prog W base spare held fuel 31 cs = some y) : ∃ ao n cap l,cs = [.slice ao n cap] /\ NRow W ao n cap l:=by
 rcases open_slice Tryz.underlying31 h with ⟨rfl,_⟩ | ⟨a,len,cap,m,n,D,Pl,rfl,_,hl,hm,hmm,_,hx⟩
 ·exact ⟨none,0,0,[],rfl,NRow.nil _ _⟩
 ·have hlm : len <= m := by rw [hmm]; split <;> omega
  by_cases h0 : len = 0
  ·subst h0
   exact ⟨some a,0,cap,[],rfl,rfl,hl,hm,fun e=>(by cases e),fun _ e=>(by cases e),.inl rfl⟩
  ·have hp : ∃ b o, a = ⟨b, o, none⟩ /\ b < W.heap.size := by
    obtain ⟨cs',h1,_⟩:=hx 0 (by omega)
    rw [cellsNode,Nat.zero_mul,add0] at h1
    obtain ⟨_,hlen,hcell⟩:=World.cells?_some h1
    have:=hcell 0 (by omega)
    rw [add0,List.getElem?_eq_getElem (by omega)] at this
    exact plain_of this
   obtain ⟨b,o,rfl,hb⟩:=hp
   have each : ∀ i,i < len -> ∃ d : Nd,NdAt W b (o + i * 4) d /\ NdOk d:=fun i hi=>by
    obtain ⟨cs',h1,h2⟩:=hx i (by omega)
    rw [cellsNode,addp] at h1
    exact node_arg h1 h2
   obtain ⟨q,hq⟩:=choose_lt each
   have hget : ∀ i,i < len -> ((List.range len).map q).getD i default = q i:=fun i hi=>by
    rw [List.getD_eq_getElem?_getD,List.getElem?_map,List.getElem?_range hi];rfl
   refine ⟨some ⟨b,o,none⟩,len,cap,(List.range len).map q,rfl,by simp,hl,hm,fun e=>(by cases e),?_,.inr ⟨b,o,rfl,hb,fun i hi=>?_⟩⟩
   ·intro d hd
    obtain ⟨i,hi,rfl⟩:=List.mem_map.1 hd
    exact (hq i (List.mem_range.1 hi)).2
   ·have hi' : i < len := by simpa using hi
    rw [hget i hi'];exact (hq i hi').1
end
theorem graph_arg {H : Type} {enc : TypeId × Value -> H} {W : World} {r : Reach} {b0 : Nat} {v : Value} {d : DataW H} {p : List MemPlace} {base : Nat} {spare : TypeId -> Bool} {held : Bool}
  (hv : Value.okWide Tryz.prog W r b0 34 v) (h : DataW.Trod enc Tryz.prog W base spare held 34 v d p) :
  ∃ an nn cn ar nr cr ns rs,v = GVal an nn cn ar nr cr /\ GIs W an nn cn ar nr cr ns rs:=by
 obtain ⟨c0,c1,y0,y1,m,rfl,rfl,rfl,hy0,hy1⟩:=open_agg2 Tryz.underlying34 (by kernel_rfl) cellsGraph hv h
 obtain ⟨an,nn,cn,ns,q0,hN⟩:=nodes_arg hy0
 obtain ⟨ar,nr,cr,rs,q1,hR⟩:=ints_arg hy1
 cases q0;cases q1
 exact ⟨an,nn,cn,ar,nr,cr,ns,rs,rfl,hN,hR⟩
end Go.Proofs.YticimejfjjmikaaGreatDoor
