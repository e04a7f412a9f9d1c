import Derived.Test.YticimejfjjmikaaGreatDoorQ7
import Derived.Test.YticimejfjjmikaaGreatDoorX3
import Derived.Test.YticimejfjjmikaaGreatDoorG3
set_option linter.unusedVariables false
set_option linter.unusedSimpArgs false
set_option maxRecDepth 100000
namespace Go.Proofs.YticimejfjjmikaaGreatDoor
open Go.RowKit
def bigL (neg : Bool) (l : List Nat) : List Int:=wordR 1 (if neg then 1 else 0) 0 :: l.map (fun x=>wordR 1 (x : Nat) 0)
theorem bigL_take (neg : Bool) {l : List Nat} {q : Nat} (h : q < l.length) : bigL neg (l.take (q + 1)) = bigL neg (l.take q) ++ [wordR 1 (l.getD q 0 : Nat) 0]:=by
 unfold bigL
 rw [List.take_succ_eq_append_getElem h,List.map_append,List.cons_append,List.getD_eq_getElem?_getD,List.getElem?_eq_getElem h];rfl
theorem bigL_len (neg : Bool) (l : List Nat) : (bigL neg l).length = l.length + 1:=by simp [bigL]
theorem bigL_u (neg : Bool) (l : List Nat) : ∀ z∈bigL neg l,U64 z:=by
 intro z hz
 unfold bigL at hz
 rcases List.mem_cons.1 hz with rfl | hz
 ·exact wordR_rng _ _ _
 ·obtain ⟨x,_,rfl⟩:=List.mem_map.1 hz;exact wordR_rng _ _ _
theorem own_one {w W : World} {z : Int} (hb : Below w.heap.size w W) : (W.alloc (.cells #[.int .u64 z] 44)).ownsRow w.heap.size 44 1 (.slice (some ⟨W.heap.size,0,none⟩) 1 1) 1 (uz [z]) :=
 ⟨rfl,.inr ⟨W.heap.size,1,#[.int .u64 z],rfl,hb.size,blk_new _ _ _,Nat.le_refl _,by unfold maxLen;omega,rfl,rfl⟩⟩
set_option maxHeartbeats 4000000 in
theorem big_any (neg : Bool) (ao : Option Addr) (n cap : Nat) (l : List Nat) (w : World) (R : Row .u32 B32 w ao n cap l) (hn : n <= 1000) :
  Calls Tryz.prog 148 #[.agg #[.bool neg,.slice ao n cap]] w fun e w'=>∃ v,e = .returned v /\ w'.ownsRow w.heap.size 44 1 v (n + 1) (uz (bigL neg l)) /\ Below w.heap.size w w':=by
 have HR:=hid R
 have hln:=R.len
 have hf:=R.fits
 have hm:=R.most
 unfold maxLen at hm
 have b0:=Ba w (.cells #[.bool neg,.slice ao n cap] 104)
 have HB0:=hid b0
 have hx:=blk_new w #[.bool neg,.slice ao n cap] 104
 have HX:=hid hx
 have HC : Hid (∀ W,Below (w.alloc (.cells #[.bool neg,.slice ao n cap] 104)).heap.size (w.alloc (.cells #[.bool neg,.slice ao n cap] 104)) W -> W.cell? ⟨w.heap.size,0,none⟩ = some (.bool neg) /\ W.cell? ⟨w.heap.size,1,none⟩ = some (.slice ao n cap) /\ Below w.heap.size w W):=fun W b=>by
  have e:=(b.block w.heap.size (by rw [size_alloc];omega)).trans HX.out
  exact ⟨blk_cell e 0,blk_cell e 1,Bt HB0.out b⟩
 have CW : Hid (∀ x : Nat,x < 4294967296 -> ∀ W,Calls Tryz.prog 146 #[.int .i64 1,.int .i64 (x : Nat)] W fun e w'=>e = .returned (.int .u64 (wordR 1 (x : Nat) 0)) /\ Below W.heap.size W w'):=fun x hx W=>sword_any 1 x (by unfold Z64;omega) (by unfold Z64;omega) W
 have CW0:=hid (CW.out 0 (by omega))
 have CW1:=hid (CW.out 1 (by omega))
 obtain ⟨z0,hz0⟩ : ∃ z,z = wordR 1 ((0 : Nat) : Int) 0:=⟨_,rfl⟩
 obtain ⟨z1,hz1⟩ : ∃ z,z = wordR 1 ((1 : Nat) : Int) 0:=⟨_,rfl⟩
 rw [<- hz0] at CW0
 rw [<- hz1] at CW1
 have HBG : Hid (bigL neg [] = [if neg then z1 else z0]):=by
  unfold Hid bigL
  cases neg
  ·simp [hz0]
  ·simp [hz1]
 obtain ⟨W0,hW0⟩ : ∃ W,W = w.alloc (.cells #[.bool neg,.slice ao n cap] 104):=⟨_,rfl⟩
 have HW0:=hid hW0
 rw [<- hW0] at HC
 clear R b0 hx hz0 hz1
 have c0:=(HC.out W0 (Below.refl _ _)).1
 rw [hW0] at c0
 have fin : Hid (∀ (v : Value) (wr : World) (q : Nat),wr.ownsRow W0.heap.size 44 1 v (q + 1) (uz (bigL neg (l.take q))) -> Below W0.heap.size W0 wr -> q = n -> wr.ownsRow w.heap.size 44 1 v (n + 1) (uz (bigL neg l)) /\ Below w.heap.size w wr):=fun v wr q h1 h2 e=>by
  subst e
  rw [List.take_of_length_le (by omega)] at h1
  exact ⟨own_weak h1 (by rw [HW0.out,size_alloc];omega),(HC.out wr h2).2.2⟩
 have hone : Hid (∀ (W : World) (z : Int),Below W0.heap.size W0 W -> (W.alloc (.cells #[.int .u64 z] 44)).ownsRow W0.heap.size 44 1 (.slice (some ⟨W.heap.size,0,none⟩) 1 1) 1 (uz [z])):=fun W z hb=>own_one hb
 have HRW : Hid (∀ W,Below W0.heap.size W0 W -> Row .u32 B32 W ao n cap l):=fun W b=>HR.out.below (HC.out W b).2.2
 cases neg
 ·have eW : Hid (w.alloc (.cells #[.bool false, .slice ao n cap] 104) = W0) := HW0.out.symm
  go_enter Tryz.func148,Tryz.ntmps148
  go_wp2_with fail
  rw [eW.out]
  go_wp2_with (go_at_call 146;(refine (CW0.out W0).mono ?_);rintro e W1 ⟨rfl,b1⟩;have HB1:=hid b1;obtain ⟨e0,e1,_⟩:=HC.out (W1.alloc (.cells #[.int .u64 z0] 44)) (Bt b1 (Ba _ _));clear b1)
  have HBSTART : Hid (Below W0.heap.size W0 (W1.alloc (.cells #[.int .u64 z0] 44))):=Bt HB1.out (Ba _ _)
  have HSTART : Hid ((W1.alloc (.cells #[.int .u64 z0] 44)).ownsRow W0.heap.size 44 1 (.slice (some ⟨W1.heap.size,0,none⟩) 1 1) (0 + 1) (uz (bigL false (l.take 0)))):=by
   unfold Hid
   rw [List.take_zero,HBG.out]
   exact hone.out W1 z0 HB1.out
  clear e0 e1
  go_loopw [3,4] (fun v i wr=>∃ q : Nat,q <= n /\ i = .int .i64 q /\ Hid (wr.ownsRow W0.heap.size 44 1 v (q + 1) (uz (bigL false (l.take q))) /\ Below W0.heap.size W0 wr)) (fun _ i _=>n - (intOf i).toNat)
  case atStart=>exact ⟨0,Nat.zero_le _,rfl,HSTART.out,HBSTART.out⟩
  case round =>
   obtain ⟨q,hq,rfl,hI⟩:=hrel
   obtain ⟨_,d1,_⟩:=HC.out wr hI.out.2
   have HOQ:=hid hI.out.1
   have HBQ:=hid hI.out.2
   clear hI
   by_cases hlt : q < n
   ·obtain ⟨b, o, rfl, hlb, hcc⟩ := (HRW.out wr HBQ.out).rd.some (by omega)
    have hck:=hcc q (by omega)
    have hxb : l.getD q 0 < B32:=by rw [List.getD_eq_getElem?_getD,List.getElem?_eq_getElem (by omega)];exact HR.out.dg _ (List.getElem_mem _)
    have C1:=hid (CW.out (l.getD q 0) hxb wr)
    have HT:=hid (bigL_take false (l:=l) (q:=q) (by omega))
    obtain ⟨x,hx⟩ : ∃ x,x = l.getD q 0:=⟨_,rfl⟩
    rw [<- hx] at hck C1 HT hxb
    have hxb' : x < 4294967296:=hxb
    obtain ⟨zx,hzx⟩ : ∃ z,z = wordR 1 ((x : Nat) : Int) 0:=⟨_,rfl⟩
    have hzu : Hid (U64 zx):=by unfold Hid;rw [hzx];exact wordR_rng _ _ _
    rw [<- hzx] at C1 HT
    clear hcc hx hzx hxb
    go_wp2_with (first
     | (go_at_call 146;(with_reducible refine C1.out.mono ?_);rintro e W1 ⟨rfl,b1⟩;have HB1:=hid (b1.mono HBQ.out.size);have HBW1:=hid (HBQ.out.trans HB1.out);have HO1:=hid (uown_on (uown_on HOQ.out b1) (Ba W1 (.cells #[.int .u64 zx] 44)));have HU1:=hid (urow_one (blk_new W1 #[.int .u64 zx] 44) hzu.out);have HBA:=hid (HBW1.out.trans ((Ba W1 (.cells #[.int .u64 zx] 44)).mono HBW1.out.size));have HSA:=hid HBA.out.size;clear b1)
     | (at_builtin;refine appU rfl _ _ 23 rfl W0.heap.size 44 Tryz.underlying23 info_word _ (q + 1) (bigL false (l.take q)) rfl HO1.out (some ⟨W1.heap.size,0,none⟩) 1 1 [zx] rfl HU1.out (by omega) HSA.out ?_;intro v2 w2 ho2 hg2))
    have HE : Hid (Below W0.heap.size W0 w2):=HBA.out.grown hg2 HSA.out (fun b hb=>(HO1.out.lt b hb).1)
    refine ⟨⟨q + 1,by omega,by go_num,?_,HE.out⟩,by simp [intOf] <;> omega⟩
    rw [HT.out];exact ho2
   ·obtain rfl : q = n := by omega
    go_wp2_with fail
    go_ret
    obtain ⟨f1,f2⟩:=fin.out _ _ _ HOQ.out HBQ.out rfl
    exact ⟨_,rfl,f1,f2⟩
 ·have eW : Hid (w.alloc (.cells #[.bool true, .slice ao n cap] 104) = W0) := HW0.out.symm
  go_enter Tryz.func148,Tryz.ntmps148
  go_wp2_with fail
  rw [eW.out]
  refine (CW0.out W0).mono ?_
  rintro e W1 ⟨rfl,b1⟩
  have HB1:=hid b1
  have HBA:=hid (Bt b1 (Ba W1 (.cells #[.int .u64 z0] 44)))
  obtain ⟨e0,e1,_⟩:=HC.out (W1.alloc (.cells #[.int .u64 z0] 44)) HBA.out
  have C2:=hid (CW1.out (W1.alloc (.cells #[.int .u64 z0] 44)))
  have hx1:=blk_new W1 #[.int .u64 z0] 44
  have HX1:=hid hx1
  have hs1 : Hid (W1.heap.size < (W1.alloc (.cells #[.int .u64 z0] 44)).heap.size):=by unfold Hid;rw [size_alloc];omega
  clear b1 hx1
  go_wp2_with (go_at_call 146;(refine C2.out.mono ?_);rintro e W2 ⟨rfl,b2⟩;have hx2:=(b2.block W1.heap.size hs1.out).trans HX1.out;have HX2:=hid hx2;have q0 : W2.cell? ⟨W1.heap.size,0,none⟩ = some (.int .u64 z0):=blk_cell hx2 0;have f0:=blk_free hx2 0;have HB2:=hid (HBA.out.trans (b2.mono HBA.out.size));clear b2 hx2)
  have HBSTART : Hid (Below W0.heap.size W0 (W2.setCell ⟨W1.heap.size,0,none⟩ (.int .u64 z1))):=HB2.out.setCell (p:=⟨W1.heap.size,0,none⟩) HB1.out.size _
  have HSTART : Hid ((W2.setCell ⟨W1.heap.size,0,none⟩ (.int .u64 z1)).ownsRow W0.heap.size 44 1 (.slice (some ⟨W1.heap.size,0,none⟩) 1 1) (0 + 1) (uz (bigL true (l.take 0)))):=by
   unfold Hid
   rw [List.take_zero,HBG.out]
   refine ⟨rfl,.inr ⟨W1.heap.size,1,#[.int .u64 z1],rfl,HB1.out.size,?_,Nat.le_refl _,by unfold maxLen;omega,rfl,rfl⟩⟩
   rw [blk_set (i:=0) HX2.out];rfl
  clear q0 f0 e0 e1
  go_loopw [3,4] (fun v i wr=>∃ q : Nat,q <= n /\ i = .int .i64 q /\ Hid (wr.ownsRow W0.heap.size 44 1 v (q + 1) (uz (bigL true (l.take q))) /\ Below W0.heap.size W0 wr)) (fun _ i _=>n - (intOf i).toNat)
  case atStart=>exact ⟨0,Nat.zero_le _,rfl,HSTART.out,HBSTART.out⟩
  case round =>
   obtain ⟨q,hq,rfl,hI⟩:=hrel
   obtain ⟨_,d1,_⟩:=HC.out wr hI.out.2
   have HOQ:=hid hI.out.1
   have HBQ:=hid hI.out.2
   clear hI
   by_cases hlt : q < n
   ·obtain ⟨b, o, rfl, hlb, hcc⟩ := (HRW.out wr HBQ.out).rd.some (by omega)
    have hck:=hcc q (by omega)
    have hxb : l.getD q 0 < B32:=by rw [List.getD_eq_getElem?_getD,List.getElem?_eq_getElem (by omega)];exact HR.out.dg _ (List.getElem_mem _)
    have C1:=hid (CW.out (l.getD q 0) hxb wr)
    have HT:=hid (bigL_take true (l:=l) (q:=q) (by omega))
    obtain ⟨x,hx⟩ : ∃ x,x = l.getD q 0:=⟨_,rfl⟩
    rw [<- hx] at hck C1 HT hxb
    have hxb' : x < 4294967296:=hxb
    obtain ⟨zx,hzx⟩ : ∃ z,z = wordR 1 ((x : Nat) : Int) 0:=⟨_,rfl⟩
    have hzu : Hid (U64 zx):=by unfold Hid;rw [hzx];exact wordR_rng _ _ _
    rw [<- hzx] at C1 HT
    clear hcc hx hzx hxb
    go_wp2_with (first
     | (go_at_call 146;(with_reducible refine C1.out.mono ?_);rintro e W1 ⟨rfl,b1⟩;have HB1:=hid (b1.mono HBQ.out.size);have HBW1:=hid (HBQ.out.trans HB1.out);have HO1:=hid (uown_on (uown_on HOQ.out b1) (Ba W1 (.cells #[.int .u64 zx] 44)));have HU1:=hid (urow_one (blk_new W1 #[.int .u64 zx] 44) hzu.out);have HBA:=hid (HBW1.out.trans ((Ba W1 (.cells #[.int .u64 zx] 44)).mono HBW1.out.size));have HSA:=hid HBA.out.size;clear b1)
     | (at_builtin;refine appU rfl _ _ 23 rfl W0.heap.size 44 Tryz.underlying23 info_word _ (q + 1) (bigL true (l.take q)) rfl HO1.out (some ⟨W1.heap.size,0,none⟩) 1 1 [zx] rfl HU1.out (by omega) HSA.out ?_;intro v2 w2 ho2 hg2))
    have HE : Hid (Below W0.heap.size W0 w2):=HBA.out.grown hg2 HSA.out (fun b hb=>(HO1.out.lt b hb).1)
    refine ⟨⟨q + 1,by omega,by go_num,?_,HE.out⟩,by simp [intOf] <;> omega⟩
    rw [HT.out];exact ho2
   ·obtain rfl : q = n := by omega
    go_wp2_with fail
    go_ret
    obtain ⟨f1,f2⟩:=fin.out _ _ _ HOQ.out HBQ.out rfl
    exact ⟨_,rfl,f1,f2⟩
def sz (l : List ByteArray) : List Value:=l.map Value.string
theorem sz_append (l r : List ByteArray) : sz (l ++ r) = sz l ++ sz r:=by simp [sz]
theorem info_str : (Tryz.prog.info? 9).map (fun i=>(i.zero,i.size,i.bytes)) = some (some (.string ⟨#[]⟩),1,16):=by kernel_rfl
structure NM (B g : Nat) (vL : Value) (ls : List ByteArray) (w : World) : Prop where
 box : w.heap[g]? = some (.cells #[vL] 73 (0,0))
 own : w.ownsRow B 9 1 vL ls.length (sz ls)
 gl : vL.ownBlock ≠ some g
 Bg : B <= g
def NF (g : Nat) (vL : Value) : Nat -> Prop:=fun b=>b = g \/ vL.ownBlock = some b
section
variable {B g : Nat} {vL : Value} {ls : List ByteArray} {w w' : World}
theorem NM.ge (h : NM B g vL ls w) : ∀ b,NF g vL b -> B <= b /\ b < w.heap.size:=by
 rintro b (rfl | e)
 ·exact ⟨h.Bg,(Array.getElem?_eq_some_iff.1 h.box).1⟩
 ·exact h.own.lt b e
theorem NM.keep (h : NM B g vL ls w) (hb : ∀ b,NF g vL b -> w'.heap[b]? = w.heap[b]?) : NM B g vL ls w' :=
 ⟨(hb g (.inl rfl)).trans h.box,own_at h.own (fun b e=>hb b (.inr e)),h.gl,h.Bg⟩
theorem NM.on (h : NM B g vL ls w) (hb : Below w.heap.size w w') : NM B g vL ls w':=h.keep (fun b hf=>hb.block b (h.ge b hf).2)
theorem NM.get (h : NM B g vL ls w) {i : Nat} (hi : i < ls.length) : ∃ gl cap,vL = .slice (some ⟨gl,0,none⟩) ls.length cap /\ ls.length <= cap /\ cap <= 9223372036854775807 /\ w.cell? ⟨gl,i,none⟩ = some (.string (ls.getD i ByteArray.empty)):=by
 rcases h.own.2 with ⟨_,h1⟩ | ⟨gl,cap,cur,h1,h2,h3,h4,h5,h6,h7⟩
 ·omega
 ·unfold maxLen at h5
  refine ⟨gl,cap,h1,h4,h5,?_⟩
  have e : (sz ls)[i]? = some (.string (ls.getD i ByteArray.empty)):=by
   unfold sz
   rw [List.getElem?_map,List.getD_eq_getElem?_getD,List.getElem?_eq_getElem hi];rfl
  rw [blk_cell h3,<- e,<- h7,List.getElem?_take,if_pos (by omega)]
  simp
end
def idM : List ByteArray -> ByteArray -> Nat
 | [],_=>0
 | x :: l,s=>if x = s then 0 else idM l s + 1
def idL (ls : List ByteArray) (s : ByteArray) : List ByteArray:=if idM ls s < ls.length then ls else ls ++ [s]
theorem idM_found : ∀ {ls : List ByteArray} {s : ByteArray} {q : Nat},(∀ j,j < q -> ls.getD j ByteArray.empty ≠ s) -> q < ls.length -> ls.getD q ByteArray.empty = s -> idM ls s = q
 | [],_,_,_,h,_=>by simp at h
 | x :: l,s,0,_,_,h=>by
  have : x = s:=h
  unfold idM;rw [if_pos this]
 | x :: l,s,q + 1,h1,h2,h3=>by
  have h0 : x ≠ s:=h1 0 (by omega)
  have ih:=idM_found (ls:=l) (s:=s) (q:=q) (fun j hj=>h1 (j + 1) (by omega)) (by simpa using h2) h3
  unfold idM;rw [if_neg h0,ih]
theorem idM_none : ∀ {ls : List ByteArray} {s : ByteArray},(∀ j,j < ls.length -> ls.getD j ByteArray.empty ≠ s) -> idM ls s = ls.length
 | [],_,_=>rfl
 | x :: l,s,h=>by
  have h0 : x ≠ s:=h 0 (by simp)
  have ih:=idM_none (ls:=l) (s:=s) (fun j hj=>h (j + 1) (by simpa using hj))
  unfold idM;rw [if_neg h0,ih];rfl
theorem appS {P : Program} {w : World} {ops : Array Oper} {rest : List Oper} {o : Oper} {a : Act} {Q : Exit -> Act -> World -> Prop} (hgd : o.guard = none) (s x : Operand) (t : TypeId) (ho : o.op = .call { callee:=.builtin .append,args:=#[s,x],argTypes:=#[t,t] })
  (base : Nat) (e : TypeId) (ht : P.underlying t = some (.slice e)) (hi : (P.info? e).map (fun i=>(i.zero,i.size,i.bytes)) = some (some (.string ⟨#[]⟩),1,16))
  (v : Value) (n : Nat) (l : List ByteArray) (hs : a.eval s = v) (hown : w.ownsRow base e 1 v n (sz l))
  (g0 c : Nat) (d : ByteArray) (hx : a.eval x = .slice (some ⟨g0,0,none⟩) 1 c) (hd : w.cell? ⟨g0,0,none⟩ = some (.string d)) (hsm : n <= 10000000) (hbase : base <= w.heap.size)
  (h : ∀ g cap w',w'.ownsRow base e 1 (.slice (some ⟨g,0,none⟩) (n + 1) cap) (n + 1) (sz (l ++ [d])) -> w.grownBy w' v.ownBlock -> (v.ownBlock = some g \/ g = w.heap.size) -> g < w'.heap.size -> wpList P ops Q rest (a.put o.dst (.slice (some ⟨g,0,none⟩) (n + 1) cap)) w') :
  wpList P ops Q (o :: rest) a w:=by
 obtain ⟨i0,hi0,hz0,hz1,hz2⟩ : ∃ i0,P.info? e = some i0 /\ i0.zero = some (.string ⟨#[]⟩) /\ i0.size = 1 /\ i0.bytes = 16:=by
  cases h : P.info? e with
  | none=>rw [h] at hi;cases hi
  | some i=>rw [h] at hi;simp at hi;exact ⟨i,rfl,hi.1,hi.2.1,hi.2.2⟩
 refine wpList_append_lies w hgd s x t ho base e i0 (.string ⟨#[]⟩) 1 16 ht hi0 hz0 hz1 hz2 rfl (by decide) v n (sz l) hs hown ⟨g0,0,none⟩ 1 c [.string d] hx rfl ?_ ?_ (by decide) (by unfold maxLen;omega) (by omega) hbase w.heap.size rfl ?_
 ·intro j u hj
  match j,hj with
  | 0,hj=>simp at hj;subst hj;simpa [Addr.add] using hd
 ·intro u hu;simp at hu;subst hu;rfl
 ·intro g cap w' h1 h2 h3 h4
  refine h g cap w' ?_ h2 h3 h4
  rw [sz_append];exact h1
theorem NM.push {B g : Nat} {vL : Value} {ls : List ByteArray} {w w1 w' : World} {s : ByteArray} (h : NM B g vL ls w) (hb : Below w.heap.size w w1) {g1 cap n : Nat} (hn : ls.length = n) (ho : w'.ownsRow B 9 1 (.slice (some ⟨g1,0,none⟩) (n + 1) cap) (n + 1) (sz (ls ++ [s]))) (hg : w1.grownBy w' vL.ownBlock) (hl : vL.ownBlock = some g1 \/ g1 = w1.heap.size) :
  w'.cell? ⟨g,0,none⟩ = some vL /\ w'.frozen? ⟨g,0,none⟩ = false /\ NM B g (.slice (some ⟨g1,0,none⟩) (n + 1) cap) (ls ++ [s]) (w'.setCell ⟨g,0,none⟩ (.slice (some ⟨g1,0,none⟩) (n + 1) cap)) /\
   (∀ b,NF g (.slice (some ⟨g1,0,none⟩) (n + 1) cap) b -> NF g vL b \/ w.heap.size <= b) /\ Mod (NF g vL) w (w'.setCell ⟨g,0,none⟩ (.slice (some ⟨g1,0,none⟩) (n + 1) cap)):=by
 have hgl:=(h.ge g (.inl rfl)).2
 have hs:=hb.size
 have hbx : w'.heap[g]? = some (.cells #[vL] 73 (0,0)):=(hg.block g (by omega) (fun e=>h.gl e.symm)).trans ((hb.block g hgl).trans h.box)
 have hne : g1 ≠ g:=by
  rcases hl with e | e
  ·exact fun e'=>h.gl (by rw [e,e'])
  ·omega
 refine ⟨blk_cell hbx 0,blk_free hbx 0,⟨?_,?_,fun e=>?_,h.Bg⟩,?_,?_⟩
 ·rw [blk_set (i:=0) hbx];rfl
 ·rw [List.length_append, hn]
  exact own_at ho (fun b e=>Below.heap_setCell _ _ _ _ (by have e' : g1 = b:=Option.some.inj e;show b ≠ g;omega))
 ·exact hne (Option.some.inj e)
 ·rintro b (rfl | e)
  ·exact .inl (.inl rfl)
  ·have e' : g1 = b := Option.some.inj e
   rcases hl with h1 | h1
   ·exact .inl (.inr (by rw [h1,e']))
   ·exact .inr (by omega)
 ·refine ((Mod.of_below (NF g vL) hb).grown hg (fun k hk=>.inl (.inr hk))).setCell (p:=⟨g,0,none⟩) (.inl (.inl rfl)) _
def NPost (B g : Nat) (vL : Value) (w : World) (ls' : List ByteArray) (w' : World) : Prop :=
 ∃ vL',NM B g vL' ls' w' /\ (∀ b,NF g vL' b -> NF g vL b \/ w.heap.size <= b) /\ Mod (NF g vL) w w'
set_option maxHeartbeats 4000000 in
theorem nid_any {B g : Nat} {vL : Value} {ls : List ByteArray} (s : ByteArray) (w : World) (h : NM B g vL ls w) (hB : B <= w.heap.size) (hsm : ls.length <= 1000000) :
  Calls Tryz.prog 33 #[.pointer (some ⟨g,0,none⟩),.string s] w fun e w'=>e = .returned (.int .i64 (idM ls s : Nat)) /\ NPost B g vL w (idL ls s) w':=by
 have H:=hid h
 obtain ⟨aL,cL,hvL,hLf,hLm⟩:=slice_form h.own
 subst hvL
 have c0 : w.cell? ⟨g,0,none⟩ = some (.slice aL ls.length cL):=blk_cell h.box 0
 obtain ⟨n,hn⟩ : ∃ n,n = ls.length:=⟨_,rfl⟩
 rw [<- hn] at c0 hLf hsm H ⊢
 have HN:=hid hn
 clear h hn
 go_enter Tryz.func33,Tryz.ntmps33
 go_wp2_with fail
 go_loop [5] (fun i=>∃ q : Nat,q <= n /\ i = .int .i64 q /\ Hid (∀ j,j < q -> ls.getD j ByteArray.empty ≠ s)) (fun i=>n - (intOf i).toNat)
 case atStart=>exact ⟨0,Nat.zero_le _,rfl,fun j hj=>by omega⟩
 case round =>
  obtain ⟨q,hq,rfl,hI⟩:=hrel
  by_cases hlt : q < n
  ·obtain ⟨gl, cap, hv, _, _, hc⟩ := H.out.get (i := q) (by rw [<- HN.out]; exact hlt)
   injection hv with e1 _ e3
   subst e1 e3
   obtain ⟨x,hx⟩ : ∃ x,x = ls.getD q ByteArray.empty:=⟨_,rfl⟩
   rw [<- hx] at hc
   have HX:=hid hx
   have et:=str_eq x s
   clear hx
   by_cases hxs : x = s
   ·rw [decide_eq_true hxs] at et
    have hfound : Hid (idM ls s = q /\ idL ls s = ls):=by
     have hl:=HN.out
     have e:=idM_found (q:=q) hI.out (by omega) (by rw [<- HX.out];exact hxs)
     exact ⟨e,by unfold idL;rw [e,if_pos (by omega)]⟩
    clear hxs
    go_wp2_with fail
    go_ret
    rw [hfound.out.1,hfound.out.2]
    exact ⟨rfl,_,H.out,fun b hb=>.inl hb,Mod.refl _ _⟩
   ·rw [decide_eq_false hxs] at et
    have HNX : Hid (∀ j,j < q + 1 -> ls.getD j ByteArray.empty ≠ s):=fun j hj=>by
     by_cases e : j = q
     ·subst e;rw [<- HX.out];exact hxs
     ·exact hI.out j (by omega)
    clear hxs
    go_wp2_with fail
    exact ⟨⟨q + 1,by omega,by go_num,HNX.out⟩,by simp [intOf] <;> omega⟩
  ·obtain rfl : q = n := by omega
   have hres : Hid (idM ls s = q /\ idL ls s = ls ++ [s]):=by
    have e:=idM_none (ls:=ls) (s:=s) (fun j hj=>hI.out j (by rw [HN.out];exact hj))
    exact ⟨by rw [e,HN.out],by unfold idL;rw [e,if_neg (by omega)]⟩
   have HO1:=hid (own_at H.out.own (fun b e=>(Ba w (.cells #[.string s] 9)).block b (H.out.own.lt b e).2))
   rw [<- HN.out] at HO1
   have hc1 : (w.alloc (.cells #[.string s] 9)).cell? ⟨w.heap.size,0,none⟩ = some (.string s):=blk_cell (blk_new w #[.string s] 9) 0
   have HC1:=hid hc1
   have HSZ : Hid (B <= (w.alloc (.cells #[.string s] 9)).heap.size):=Nat.le_trans hB (Ba w _).size
   clear hI hc1
   go_wp2_with (at_builtin;refine appS rfl _ _ 71 rfl B 9 Tryz.underlying71 info_str _ q ls rfl HO1.out w.heap.size 1 s rfl HC1.out (by omega) HSZ.out ?_;intro g1 cap1 w3 ho3 hg3 hl3 hlt3;obtain ⟨d0,f0,h4,h5,h6⟩:=H.out.push (Ba w (.cells #[.string s] 9)) HN.out.symm ho3 hg3 hl3;have H4:=hid h4;have H5:=hid h5;have H6:=hid h6;have d2 : (w3.setCell ⟨g,0,none⟩ (.slice (some ⟨g1,0,none⟩) (q + 1) cap1)).cell? ⟨g,0,none⟩ = some (.slice (some ⟨g1,0,none⟩) (q + 1) cap1):=blk_cell h4.box 0;clear ho3 hg3 hl3 h4 h5 h6)
   go_ret
   rw [hres.out.1,hres.out.2]
   exact ⟨by simp,_,H4.out,H5.out,H6.out⟩
def plainWd (ls : List ByteArray) (d : Nd) : Int :=
 if d.kind = 1 then wordR 3 0 0 else if d.kind = 2 then wordR 3 (1 + d.num) 0 else if d.kind = 10 then wordR 3 3 0 else if d.kind = 11 then wordR 3 4 0
 else if d.kind = 4 then wordR 4 d.num 0 else if d.kind = 6 then wordR 5 ((idM ls d.text : Nat) : Int) 0 else wordR 1 (txZ d.text) 0
def plainN (ls : List ByteArray) (d : Nd) : List ByteArray:=if d.kind = 6 then idL ls d.text else ls
theorem plainWd_u (ls : List ByteArray) (d : Nd) : U64 (plainWd ls d):=by
 unfold plainWd
 split
 ·exact wordR_rng _ _ _
 split
 ·exact wordR_rng _ _ _
 split
 ·exact wordR_rng _ _ _
 split
 ·exact wordR_rng _ _ _
 split
 ·exact wordR_rng _ _ _
 split <;> exact wordR_rng _ _ _
theorem idM_le : ∀ (ls : List ByteArray) (s : ByteArray),idM ls s <= ls.length
 | [],_=>Nat.le_refl _
 | x :: l,s=>by
  unfold idM
  split
  ·exact Nat.zero_le _
  ·have:=idM_le l s;simp;omega
theorem NPost.of_below {B g : Nat} {vL : Value} {ls : List ByteArray} {w w' : World} (h : NM B g vL ls w) (hb : Below w.heap.size w w') : NPost B g vL w ls w' :=
 ⟨vL,h.on hb,fun b e=>.inl e,Mod.of_below _ hb⟩
theorem NPost.front {B g : Nat} {vL : Value} {ls : List ByteArray} {w w1 w' : World} (hb : Below w.heap.size w w1) (h : NPost B g vL w1 ls w') : NPost B g vL w ls w':=by
 obtain ⟨vL',h1,h2,h3⟩:=h
 have hs:=hb.size
 exact ⟨vL',h1,fun b e=>(h2 b e).imp id (fun e=>by omega),(Mod.of_below (NF g vL) hb).trans h3 (fun _ _ e=>e)⟩
theorem NPost.behind {B g : Nat} {vL : Value} {ls : List ByteArray} {w w1 w' : World} (h : NPost B g vL w ls w1) (hb : Below w1.heap.size w1 w') : NPost B g vL w ls w':=by
 obtain ⟨vL',h1,h2,h3⟩:=h
 exact ⟨vL',h1.on hb,h2,h3.trans (Mod.of_below (NF g vL) hb) (fun _ _ e=>e)⟩
set_option maxHeartbeats 4000000 in
theorem nplain_any {B g : Nat} {vL : Value} {ls : List ByteArray} (d : Nd) (ka : Option Addr) (kc : Nat) (w : World) (h : NM B g vL ls w) (hB : B <= w.heap.size) (hsm : ls.length <= 1000000) (hkd : I64 d.kind) (hnm : 0 <= d.num /\ d.num <= 10000000) (htx : d.text.size <= 5000) (hk : d.kind = 1 \/ d.kind = 2 \/ d.kind = 4 \/ d.kind = 6 \/ d.kind = 10 \/ d.kind = 11 \/ d.kind = 3 /\ printedB d.text = true /\ fixB (txZ d.text) = true) :
  Calls Tryz.prog 92 #[.pointer (some ⟨g,0,none⟩),NdVal d ka kc] w fun e w'=>e = .returned (.int .u64 (plainWd ls d)) /\ NPost B g vL w (plainN ls d) w':=by
 have HB:=hid (Ba w (.cells #[.int .i64 d.kind,.int .i64 d.num,.string d.text,.slice ka d.kids.length kc] 54))
 have hx:=blk_new w #[.int .i64 d.kind,.int .i64 d.num,.string d.text,.slice ka d.kids.length kc] 54
 have H:=hid h
 have HK:=hid hk
 have HPW : Hid (plainWd ls d = if d.kind = 1 then wordR 3 0 0 else if d.kind = 2 then wordR 3 (1 + d.num) 0 else if d.kind = 10 then wordR 3 3 0 else if d.kind = 11 then wordR 3 4 0
  else if d.kind = 4 then wordR 4 d.num 0 else if d.kind = 6 then wordR 5 ((idM ls d.text : Nat) : Int) 0 else wordR 1 (txZ d.text) 0):=rfl
 have HPN : Hid (plainN ls d = if d.kind = 6 then idL ls d.text else ls):=rfl
 obtain ⟨n1,n2⟩:=hnm
 unfold NdVal
 obtain ⟨dk,dn,dt,dl⟩:=d
 simp only at HB HK HPW HPN htx hkd hx n1 n2 ⊢
 obtain ⟨kn,hkn⟩ : ∃ n,n = dl.length:=⟨_,rfl⟩
 rw [<- hkn] at HB hx ⊢
 have c0 : (w.alloc (.cells #[.int .i64 dk,.int .i64 dn,.string dt,.slice ka kn kc] 54)).cell? ⟨w.heap.size,0,none⟩ = some (.int .i64 dk):=blk_cell hx 0
 have c1 : (w.alloc (.cells #[.int .i64 dk,.int .i64 dn,.string dt,.slice ka kn kc] 54)).cell? ⟨w.heap.size,1,none⟩ = some (.int .i64 dn):=blk_cell hx 1
 have c2 : (w.alloc (.cells #[.int .i64 dk,.int .i64 dn,.string dt,.slice ka kn kc] 54)).cell? ⟨w.heap.size,2,none⟩ = some (.string dt):=blk_cell hx 2
 have fin : Hid (∀ W1,Below (w.alloc (.cells #[.int .i64 dk,.int .i64 dn,.string dt,.slice ka kn kc] 54)).heap.size (w.alloc (.cells #[.int .i64 dk,.int .i64 dn,.string dt,.slice ka kn kc] 54)) W1 -> NPost B g vL w ls W1):=fun W1 b=>NPost.of_below H.out (Bt HB.out b)
 clear h hx hk hkn
 by_cases k1 : dk = 1
 ·subst k1
  have ew : Hid (plainWd ls ⟨1,dn,dt,dl⟩ = wordR 3 0 0):=HPW.out
  have en : Hid (plainN ls ⟨1,dn,dt,dl⟩ = ls):=HPN.out
  have C:=hid (sword_any 3 0 (by unfold Z64;omega) (by unfold Z64;omega) (w.alloc (.cells #[.int .i64 1,.int .i64 dn,.string dt,.slice ka kn kc] 54)))
  obtain ⟨z,hz⟩ : ∃ z,z = wordR 3 0 0:=⟨_,rfl⟩
  rw [<- hz] at C ew
  clear hz
  go_enter Tryz.func92,Tryz.ntmps92
  go_wp2_with (go_at_call 146;(with_reducible refine C.out.mono ?_);rintro e W1 ⟨rfl,b1⟩;have HB1:=hid b1;clear b1)
  go_ret
  rw [ew.out,en.out]
  exact ⟨rfl,fin.out _ HB1.out⟩
 by_cases k2 : dk = 2
 ·subst k2
  have ew : Hid (plainWd ls ⟨2,dn,dt,dl⟩ = wordR 3 (1 + dn) 0):=HPW.out
  have en : Hid (plainN ls ⟨2,dn,dt,dl⟩ = ls):=HPN.out
  have C:=hid (sword_any 3 (1 + dn) (by unfold Z64;omega) (by unfold Z64;omega) (w.alloc (.cells #[.int .i64 2,.int .i64 dn,.string dt,.slice ka kn kc] 54)))
  obtain ⟨z,hz⟩ : ∃ z,z = wordR 3 (1 + dn) 0:=⟨_,rfl⟩
  rw [<- hz] at C ew
  clear hz
  go_enter Tryz.func92,Tryz.ntmps92
  go_wp2_with (go_at_call 146;(with_reducible refine C.out.mono ?_);rintro e W1 ⟨rfl,b1⟩;have HB1:=hid b1;clear b1)
  go_ret
  rw [ew.out,en.out]
  exact ⟨rfl,fin.out _ HB1.out⟩
 by_cases k10 : dk = 10
 ·subst k10
  have ew : Hid (plainWd ls ⟨10,dn,dt,dl⟩ = wordR 3 3 0):=HPW.out
  have en : Hid (plainN ls ⟨10,dn,dt,dl⟩ = ls):=HPN.out
  have C:=hid (sword_any 3 3 (by unfold Z64;omega) (by unfold Z64;omega) (w.alloc (.cells #[.int .i64 10,.int .i64 dn,.string dt,.slice ka kn kc] 54)))
  obtain ⟨z,hz⟩ : ∃ z,z = wordR 3 3 0:=⟨_,rfl⟩
  rw [<- hz] at C ew
  clear hz
  go_enter Tryz.func92,Tryz.ntmps92
  go_wp2_with (go_at_call 146;(with_reducible refine C.out.mono ?_);rintro e W1 ⟨rfl,b1⟩;have HB1:=hid b1;clear b1)
  go_ret
  rw [ew.out,en.out]
  exact ⟨rfl,fin.out _ HB1.out⟩
 by_cases k11 : dk = 11
 ·subst k11
  have ew : Hid (plainWd ls ⟨11,dn,dt,dl⟩ = wordR 3 4 0):=HPW.out
  have en : Hid (plainN ls ⟨11,dn,dt,dl⟩ = ls):=HPN.out
  have C:=hid (sword_any 3 4 (by unfold Z64;omega) (by unfold Z64;omega) (w.alloc (.cells #[.int .i64 11,.int .i64 dn,.string dt,.slice ka kn kc] 54)))
  obtain ⟨z,hz⟩ : ∃ z,z = wordR 3 4 0:=⟨_,rfl⟩
  rw [<- hz] at C ew
  clear hz
  go_enter Tryz.func92,Tryz.ntmps92
  go_wp2_with (go_at_call 146;(with_reducible refine C.out.mono ?_);rintro e W1 ⟨rfl,b1⟩;have HB1:=hid b1;clear b1)
  go_ret
  rw [ew.out,en.out]
  exact ⟨rfl,fin.out _ HB1.out⟩
 by_cases k4 : dk = 4
 ·subst k4
  have ew : Hid (plainWd ls ⟨4,dn,dt,dl⟩ = wordR 4 dn 0):=HPW.out
  have en : Hid (plainN ls ⟨4,dn,dt,dl⟩ = ls):=HPN.out
  have C:=hid (sword_any 4 dn (by unfold Z64;omega) (by unfold Z64;omega) (w.alloc (.cells #[.int .i64 4,.int .i64 dn,.string dt,.slice ka kn kc] 54)))
  obtain ⟨z,hz⟩ : ∃ z,z = wordR 4 dn 0:=⟨_,rfl⟩
  rw [<- hz] at C ew
  clear hz
  go_enter Tryz.func92,Tryz.ntmps92
  go_wp2_with (go_at_call 146;(with_reducible refine C.out.mono ?_);rintro e W1 ⟨rfl,b1⟩;have HB1:=hid b1;clear b1)
  go_ret
  rw [ew.out,en.out]
  exact ⟨rfl,fin.out _ HB1.out⟩
 by_cases k6 : dk = 6
 ·subst k6
  have ew : Hid (plainWd ls ⟨6,dn,dt,dl⟩ = wordR 5 ((idM ls dt : Nat) : Int) 0):=HPW.out
  have en : Hid (plainN ls ⟨6,dn,dt,dl⟩ = idL ls dt):=HPN.out
  have CI:=hid (nid_any dt (w.alloc (.cells #[.int .i64 6,.int .i64 dn,.string dt,.slice ka kn kc] 54)) (H.out.on HB.out) (Nat.le_trans hB HB.out.size) hsm)
  have hid_:=idM_le ls dt
  obtain ⟨i,hi⟩ : ∃ i,i = idM ls dt:=⟨_,rfl⟩
  rw [<- hi] at CI ew hid_
  clear hi
  have CW:=hid (fun W=>sword_any 5 ((i : Nat) : Int) (by unfold Z64;omega) (by unfold Z64;omega) W)
  obtain ⟨z,hz⟩ : ∃ z,z = wordR 5 ((i : Nat) : Int) 0:=⟨_,rfl⟩
  rw [<- hz] at CW ew
  clear hz
  go_enter Tryz.func92,Tryz.ntmps92
  go_wp2_with (first
   | (go_at_call 33;(with_reducible refine CI.out.mono ?_);rintro e W1 ⟨rfl,p1⟩;have HP1:=hid p1;have C2:=hid (CW.out W1);clear p1)
   | (go_at_call 146;(with_reducible refine C2.out.mono ?_);rintro e W2 ⟨rfl,b2⟩;have HB2:=hid b2;clear b2))
  go_ret
  rw [ew.out,en.out]
  exact ⟨rfl,(HP1.out.behind HB2.out).front HB.out⟩
 obtain ⟨k3,hpt,hfx⟩ : dk = 3 /\ printedB dt = true /\ fixB (txZ dt) = true:=by
  rcases HK.out with e | e | e | e | e | e | e
  ·exact absurd e k1
  ·exact absurd e k2
  ·exact absurd e k4
  ·exact absurd e k6
  ·exact absurd e k10
  ·exact absurd e k11
  ·exact e
 subst k3
 clear k1 k2 k4 k6 k10 k11
 have ew : Hid (plainWd ls ⟨3,dn,dt,dl⟩ = wordR 1 (txZ dt) 0):=HPW.out
 have en : Hid (plainN ls ⟨3,dn,dt,dl⟩ = ls):=HPN.out
 have CP:=hid (txt_parse dt htx hpt (w.alloc (.cells #[.int .i64 3,.int .i64 dn,.string dt,.slice ka kn kc] 54)))
 have hzb : -1152921504606846976 <= txZ dt /\ txZ dt < 1152921504606846976:=by
  unfold fixB at hfx
  simpa using hfx
 have CW:=hid (fun W=>sword_any 1 (txZ dt) (by unfold Z64;omega) (by unfold Z64;omega) W)
 have HFX:=hid hfx
 obtain ⟨zt,hzt⟩ : ∃ z,z = txZ dt:=⟨_,rfl⟩
 rw [<- hzt] at CP CW ew hzb HFX
 obtain ⟨z,hz⟩ : ∃ z,z = wordR 1 zt 0:=⟨_,rfl⟩
 rw [<- hz] at CW ew
 clear hz hzt hfx hpt
 obtain ⟨z1,z2⟩:=hzb
 go_enter Tryz.func92,Tryz.ntmps92
 go_wp2_with (first
  | (go_at_call 80;(with_reducible refine CP.out.mono ?_);rintro e W1 ⟨neg,ao,n,cap,l,rfl,R,gd,hz,hl,hn,b1⟩;have HB1:=hid b1;have HB2:=hid (Ba W1 (.cells #[.bool neg,.slice ao n cap] 104));have hxi:=blk_new W1 #[.bool neg,.slice ao n cap] 104;have i0 : (W1.alloc (.cells #[.bool neg,.slice ao n cap] 104)).cell? ⟨W1.heap.size,0,none⟩ = some (.bool neg):=blk_cell hxi 0;have i1 : (W1.alloc (.cells #[.bool neg,.slice ao n cap] 104)).cell? ⟨W1.heap.size,1,none⟩ = some (.slice ao n cap):=blk_cell hxi 1;have CF:=hid (fixed_any neg ao n cap l (W1.alloc (.cells #[.bool neg,.slice ao n cap] 104)) (R.below HB2.out) gd);rw [hz] at CF;unfold FixPost at CF;rw [HFX.out] at CF;clear R gd hz hl b1 hxi)
  | (go_at_call 99;(with_reducible refine CF.out.mono ?_);rintro e W2 ⟨v,rfl,hv,b2⟩;have HBW2:=hid (Bt (Bt HB1.out HB2.out) b2);rw [hv (by simp)];have C2:=hid (CW.out W2);clear b2 hv)
  | (go_at_call 146;(with_reducible refine C2.out.mono ?_);rintro e W3 ⟨rfl,b3⟩;have HB3:=hid (Bt HBW2.out b3);clear b3))
 go_ret
 rw [ew.out,en.out]
 exact ⟨rfl,fin.out _ HB3.out⟩
end Go.Proofs.YticimejfjjmikaaGreatDoor
