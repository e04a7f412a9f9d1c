import Derived.Test.YticimejfjjmikaaGreatDoorSArg
import Derived.WideKeyPair
import Derived.Laws.IdiomArrays
set_option linter.unusedVariables false
set_option linter.unusedSimpArgs false
set_option maxRecDepth 100000
namespace Go.Proofs.YticimejfjjmikaaGreatDoor
open Go.ChangeShapes Go.WideShapes Go.ChangeAt Go.RowKit Go.Joins Go.Deep
section
variable {H : Type} {enc : TypeId × Value -> H} {W : World} {base : Nat} {sp : Nat -> Bool} {held : Bool}
theorem cellsI64 : Tryz.prog.cellsOf 2 = 1:=by kernel_rfl
theorem i64s_arg {fuel : Nat} {cs : List Value} {y : DataW H × List MemPlace} (h : DataW.trod enc Tryz.prog W base sp held fuel 58 cs = some y) : ∃ ao n cap l,cs = [.slice ao n cap] /\ IRow W ao n cap l:=by
 rcases open_ints Tryz.underlying58 Tryz.underlying2 cellsI64 h with ⟨rfl,_⟩ | ⟨a,len,cap,zs,rfl,_,hl,hm,hz,_,hcell,hwz⟩
 ·exact ⟨none,0,0,[],rfl,IRow.nil _ _⟩
 ·have hzl : len <= zs.length := by rw [hz]; split <;> omega
  have hlen : (zs.take len).length = len:=by rw [List.length_take,Nat.min_eq_left hzl]
  refine ⟨some a,len,cap,zs.take len,rfl,hlen,hl,hm,fun h=>(by cases h),?_,?_⟩
  ·intro z hz'
   have:=bounds_i64 (hwz z (List.mem_of_mem_take hz'))
   unfold I64;omega
  ·by_cases h0 : len = 0
   ·subst h0;exact .inl (by simp)
   ·have hc0 := hcell 0 (by omega)
    rw [add0] at hc0
    obtain ⟨bb,o,rfl,hlt⟩:=plain_of hc0
    refine .inr ⟨bb,o,rfl,hlt,fun i hi=>?_⟩
    rw [hlen] at hi
    have hci:=hcell i (by omega)
    rw [addp] at hci
    rw [hci,List.getD_eq_getElem?_getD,List.getD_eq_getElem?_getD,List.getElem?_take,if_pos hi]
theorem i64s_in {r : Reach} {b0 : Nat} {v : Value} {d : DataW H} {p : List MemPlace} (hv : Value.okWide Tryz.prog W r b0 58 v) (h : DataW.Trod enc Tryz.prog W base sp held 58 v d p) : ∃ ao n cap l,v = .slice ao n cap /\ IRow W ao n cap l:=by
 obtain ⟨a,len,cp,rfl⟩:=okWide_slice Tryz.underlying58 hv
 obtain ⟨fuel,hf⟩:=h
 obtain ⟨ao,n,cap,l,e,hR⟩:=i64s_arg hf
 refine ⟨ao,n,cap,l,?_,hR⟩
 simpa [Value.cells] using e
end
end Go.Proofs.YticimejfjjmikaaGreatDoor
