import Derived.Test.YticimejfjjmikaaGreatDoorQ25
import Derived.Test.YticimejfjjmikaaGreatDoorW20
import Derived.OrdersHeld
import Derived.Deep.RegionHeld3
set_option linter.unusedVariables false
set_option linter.unusedSimpArgs false
set_option maxRecDepth 100000
namespace Go.Proofs.YticimejfjjmikaaGreatDoor
open Go.RowKit
def CkN (n : Nat) (d : Nd) : Prop:=d = ⟨1,0,ByteArray.empty,[]⟩ \/ (∃ z,Z64 z /\ d = ⟨3,0,digT z,[]⟩) \/ ∃ a b : Nat,a < n /\ b < n /\ d = ⟨7,0,ByteArray.empty,[(a : Int),(b : Int)]⟩
theorem dig_small {z : Int} (h : Z64 z) : (digT z).size <= 20:=by
 unfold Z64 at h
 by_cases h0 : 0 <= z
 ·obtain ⟨v, rfl⟩ := Int.eq_ofNat_of_zero_le h0
  exact Nat.le_trans (dig_size (by omega)) (by omega)
 ·obtain ⟨v, hv⟩ : ∃ v : Nat, v = z.natAbs := ⟨_, rfl⟩
  obtain rfl : z = -(v : Int):=by omega
  rw [dig_neg (by omega),ByteArray.size_append]
  have:=dig_size (v:=v) (by omega)
  have : (textOf [45]).size = 1:=rfl
  omega
theorem dig_tx {n : Int} (hn : Z64 n) : txZ (digT n) = n:=by
 have hb : bs (digT n) = printL (decide (n < 0)) n.natAbs:=bs_textOf (printL_lt _ _)
 have hd:=(digs_ok n.natAbs n.natAbs (Nat.le_refl _))
 unfold txZ
 rw [hb,printL_cut _ _ neg_nz]
 simp only
 rw [show hv 10 (body (digs n.natAbs n.natAbs)) = n.natAbs by rw [body_val hd.1 (by omega),hd.2.2.1]]
 unfold sgn
 by_cases h0 : n < 0
 ·rw [decide_eq_true h0,decide_eq_true (by omega)];simp;omega
 ·rw [decide_eq_false h0];simp;omega
theorem mg_two {v : Nat} (h : v <= 9223372036854775808) : (mg v).length <= 2:=by
 obtain ⟨h1,h2,h3,h4⟩:=mgF_ok v v (Nat.le_refl _)
 refine Classical.byContradiction (fun hn=>?_)
 have hl : 3 <= (mg v).length:=by omega
 have hp:=Tr.pos (B:=B32) (by unfold B32;omega) h2 (fun e=>by unfold mg at hl;rw [e] at hl;simp at hl)
 have h5 : B32 ^ 2 <= B32 ^ ((mgF v v).length - 1):=Nat.pow_le_pow_right (by unfold B32;omega) (by unfold mg at hl;omega)
 rw [h3] at hp
 have h6 : (9223372036854775808 : Nat) < B32 ^ 2:=by unfold B32;decide
 omega
theorem ck_size {n : Nat} {d : Nd} (h : CkN n d) : 0 <= sizeN d /\ sizeN d <= 4:=by
 rcases h with rfl | ⟨z,hz,rfl⟩ | ⟨a,b,_,_,rfl⟩
 ·unfold sizeN;simp
 ·have : (mg (txZ (digT z)).natAbs).length <= 2 := mg_two (by rw [dig_tx hz]; unfold Z64 at hz; omega)
  unfold sizeN
  simp only
  rw [if_neg (by omega),if_pos trivial]
  split <;> omega
 ·unfold sizeN;simp
theorem ck_node {n : Nat} {d : Nd} (h : CkN n d) : nodeB n d = true:=by
 rcases h with rfl | ⟨z,hz,rfl⟩ | ⟨a,b,ha,hb,rfl⟩
 ·rfl
 ·have := dig_printed hz
  unfold nodeB numB textB countB placesB
  simp [this]
 ·unfold nodeB numB textB countB placesB placeB
  simp [ha,hb]
theorem ck_laid {ns : List Nd} (hn : ns.length <= 100) (h : ∀ d∈ns,CkN ns.length d) : (laidR ns).2.1 = 0 /\ smallG ns /\ ∀ d∈ns,d.kids.length <= 100:=by
 have hsm : smallG ns:=fun d hd=>by
  rcases h d hd with rfl | ⟨z,hz,rfl⟩ | ⟨a,b,_,_,rfl⟩
  ·exact Nat.zero_le _
  ·exact Nat.le_trans (dig_small hz) (by decide)
  ·exact Nat.zero_le _
 have hkd : ∀ d∈ns,d.kids.length <= 100:=fun d hd=>by
  rcases h d hd with rfl | ⟨z,hz,rfl⟩ | ⟨a,b,_,_,rfl⟩ <;> simp
 have hg : goodG ns (rangeI ns.length) = true:=by
  unfold goodG
  rw [Bool.and_eq_true]
  refine ⟨List.all_eq_true.2 (fun d hd=>ck_node (h d hd)),?_⟩
  unfold placesB placeB
  refine List.all_eq_true.2 (fun z hz=>?_)
  have:=range_in.1 hz
  simp only [Bool.and_eq_true,decide_eq_true_eq]
  omega
 have hF : Fine ns (rangeI ns.length) 300001:=⟨hg,hkd,by omega,by omega⟩
 have hcs : ∀ d∈(canonN ns (rangeI ns.length)).1,0 <= sizeN d /\ sizeN d <= 4:=fun d hd=>by
  unfold canonN at hd
  rw [hF.canon] at hd
  obtain ⟨o,ho,rfl⟩:=List.mem_map.1 hd
  obtain ⟨q0,q1,q2⟩:=hF.ends
  obtain ⟨j,hj,e⟩:=List.getElem_of_mem ho
  have hoj : (endS ns (rangeI ns.length) 300001).2.getD j 0 = o:=by rw [List.getD_eq_getElem?_getD,List.getElem?_eq_getElem hj];exact e
  obtain ⟨r1,r2,_⟩:=q1.ordr j hj
  rw [hoj] at r1 r2
  have hm : ns.getD o.toNat default∈ns:=getD_mem_nd (by omega)
  have:=ck_size (h _ hm)
  have e2 : sizeN (newNode ns (endS ns (rangeI ns.length) 300001).1 o) = sizeN (ns.getD o.toNat default):=by
   unfold sizeN newNode renum
   simp only [List.length_map]
  rw [e2];exact this
 have hall : (canonN ns (rangeI ns.length)).1.all (fun d=>decide (0 <= sizeN d)) = true:=List.all_eq_true.2 (fun d hd=>decide_eq_true (hcs d hd).1)
 have hsum : ∀ l : List Nd,(∀ d∈l,0 <= sizeN d /\ sizeN d <= 4) -> 0 <= sumN l /\ sumN l <= 4 * l.length:=fun l=>by
  induction l with
  | nil=>intro _;simp [sumN]
  | cons d l ih =>
   intro hl
   have h1:=hl d (List.mem_cons_self ..)
   have h2:=ih (fun x hx=>hl x (List.mem_cons_of_mem _ hx))
   unfold sumN at h2 ⊢
   rw [List.map_cons,List.sum_cons,List.length_cons]
   omega
 have hs2:=hsum _ hcs
 have hlen:=hF.len.1
 have hlen' : (canonN ns (rangeI ns.length)).1.length <= ns.length:=hlen
 refine ⟨?_,hsm,hkd⟩
 unfold laidR putR
 have hnd : needM ns (rangeI ns.length) = sumN (canonN ns (rangeI ns.length)).1:=by unfold needM;rw [if_pos ⟨hg,hall⟩]
 rw [hnd,if_neg (by omega),if_neg (by simp [usedL];omega)]
def chT (o : Nat) : Nat -> List Int -> List Nd
 | _,[]=>[]
 | i,z :: l=>⟨3,0,digT z,[]⟩ :: ⟨7,0,ByteArray.empty,[((o + 2 * i + 1 : Nat) : Int),((o + 2 * i : Nat) : Int)]⟩ :: chT o (i + 1) l
def chP (o : Nat) (l : List Int) : List Nd:=⟨1,0,ByteArray.empty,[]⟩ :: chT o 0 l
theorem chT_len (o : Nat) : ∀ (i : Nat) (l : List Int),(chT o i l).length = 2 * l.length
 | _,[]=>rfl
 | i,z :: l=>by simp [chT,chT_len o (i + 1) l];omega
theorem chP_len (o : Nat) (l : List Int) : (chP o l).length = 2 * l.length + 1:=by unfold chP;rw [List.length_cons,chT_len]
theorem chT_snoc (o : Nat) (z : Int) : ∀ (i : Nat) (l : List Int),chT o i (l ++ [z]) = chT o i l ++ [⟨3,0,digT z,[]⟩,⟨7,0,ByteArray.empty,[((o + 2 * (i + l.length) + 1 : Nat) : Int),((o + 2 * (i + l.length) : Nat) : Int)]⟩]
 | i,[]=>by simp [chT]
 | i,y :: l=>by
  rw [List.cons_append,chT,chT,chT_snoc o z (i + 1) l,List.cons_append,List.cons_append,List.length_cons]
  rw [show i + 1 + l.length = i + (l.length + 1) by omega]
theorem chP_snoc (o : Nat) (l : List Int) (z : Int) : chP o (l ++ [z]) = chP o l ++ [⟨3,0,digT z,[]⟩,⟨7,0,ByteArray.empty,[((o + 2 * l.length + 1 : Nat) : Int),((o + 2 * l.length : Nat) : Int)]⟩]:=by
 unfold chP
 rw [chT_snoc,Nat.zero_add,List.cons_append]
theorem chT_get (o : Nat) : ∀ (i : Nat) (l : List Int) (j : Nat),j < l.length -> (chT o i l).getD (2 * j) default = ⟨3,0,digT (l.getD j 0),[]⟩ /\ (chT o i l).getD (2 * j + 1) default = ⟨7,0,ByteArray.empty,[((o + 2 * (i + j) + 1 : Nat) : Int),((o + 2 * (i + j) : Nat) : Int)]⟩
 | _,[],_,h=>by simp at h
 | i,z :: l,0,_=>⟨rfl,rfl⟩
 | i,z :: l,j + 1,h=>by
  have:=chT_get o (i + 1) l j (by simpa using h)
  rw [show i + 1 + j = i + (j + 1) by omega] at this
  exact this
theorem chP_chain {ns pre post : List Nd} {l : List Int} (h : ns = pre ++ chP pre.length l ++ post) : Chain ns pre.length l:=by
 have hl:=chP_len pre.length l
 have hg : ∀ j,j < (chP pre.length l).length -> ns.getD (pre.length + j) default = (chP pre.length l).getD j default:=fun j hj=>by
  rw [h,List.append_assoc,List.getD_eq_getElem?_getD,List.getElem?_append_right (by omega),Nat.add_sub_cancel_left,List.getElem?_append_left hj,List.getD_eq_getElem?_getD]
 refine ⟨by rw [h];simp only [List.length_append];omega,?_,fun i hi=>?_,fun i hi=>?_⟩
 ·have := hg 0 (by omega)
  exact this
 ·rw [show pre.length + 2 * i + 1 = pre.length + (2 * i + 1) by omega, hg _ (by omega)]
  exact (chT_get pre.length 0 l i hi).1
 ·rw [show pre.length + 2 * i + 2 = pre.length + (2 * i + 1 + 1) by omega, hg _ (by omega)]
  have:=(chT_get pre.length 0 l i hi).2
  rw [Nat.zero_add] at this
  exact this
theorem chT_ck (o n : Nat) : ∀ (i : Nat) (l : List Int),(∀ z∈l,Z64 z) -> o + 2 * (i + l.length) < n -> ∀ d∈chT o i l,CkN n d
 | _,[],_,_,_,h=>by cases h
 | i, z :: l, hz, hn, d, hd => by
  rw [List.length_cons] at hn
  rcases List.mem_cons.1 hd with rfl | hd
  ·exact .inr (.inl ⟨z,hz z (List.mem_cons_self ..),rfl⟩)
  ·rcases List.mem_cons.1 hd with rfl | hd
   ·exact .inr (.inr ⟨_,_,by omega,by omega,rfl⟩)
   ·exact chT_ck o n (i + 1) l (fun y hy=>hz y (List.mem_cons_of_mem _ hy)) (by omega) d hd
theorem lists_math {l m : List Int} (hl : ∀ z∈l,Z64 z) (hm : ∀ z∈m,Z64 z) (h1 : l.length <= 15) (h2 : m.length <= 15) :
  smallG (chP 0 l ++ chP (2 * l.length + 1) m) /\ (∀ d∈chP 0 l ++ chP (2 * l.length + 1) m,d.kids.length <= 100) /\ (chP 0 l ++ chP (2 * l.length + 1) m).length = 2 * l.length + 2 * m.length + 2 /\ (laidR (chP 0 l ++ chP (2 * l.length + 1) m)).1.length = 2 * l.length + 2 * m.length + 2 /\
  alikeB (laidR (chP 0 l ++ chP (2 * l.length + 1) m)).2.2.1 ((laidR (chP 0 l ++ chP (2 * l.length + 1) m)).1.getD (2 * l.length) 0) ((laidR (chP 0 l ++ chP (2 * l.length + 1) m)).1.getD (2 * l.length + 1 + 2 * m.length) 0) = decide (l = m):=by
 have hlen : (chP 0 l ++ chP (2 * l.length + 1) m).length = 2 * l.length + 2 * m.length + 2:=by rw [List.length_append,chP_len,chP_len];omega
 have hck : ∀ d∈chP 0 l ++ chP (2 * l.length + 1) m,CkN (chP 0 l ++ chP (2 * l.length + 1) m).length d:=fun d hd=>by
  rw [hlen]
  rcases List.mem_append.1 hd with hd | hd
  ·rcases List.mem_cons.1 hd with rfl | hd
   ·exact .inl rfl
   ·exact chT_ck 0 _ 0 l hl (by omega) d hd
  ·rcases List.mem_cons.1 hd with rfl | hd
   ·exact .inl rfl
   ·exact chT_ck _ _ 0 m hm (by omega) d hd
 obtain ⟨e,hs,hk⟩:=ck_laid (by omega) hck
 have C : Chain (chP 0 l ++ chP (2 * l.length + 1) m) 0 l:=chP_chain (pre:=[]) (post:=chP (2 * l.length + 1) m) rfl
 have D : Chain (chP 0 l ++ chP (2 * l.length + 1) m) (2 * l.length + 1) m:=by
  have:=chP_chain (ns:=chP 0 l ++ chP (2 * l.length + 1) m) (pre:=chP 0 l) (post:=[]) (l:=m) (by rw [chP_len,List.append_nil])
  rw [chP_len] at this
  exact this
 have hA:=chain_alike hs hk (by omega) e C D hl hm l.length m.length (Nat.le_refl _) (Nat.le_refl _)
 rw [List.take_length,List.take_length,Nat.zero_add] at hA
 refine ⟨hs,hk,hlen,?_,?_⟩
 ·obtain ⟨_, _, _, _, _, _, _, hw, _⟩ := laid_words hs hk (by omega) e
  rw [hw,hlen]
 ·rw [<- alikeB_iff] at hA
  by_cases hlm : l = m
  ·rw [decide_eq_true hlm];exact hA.2 hlm
  ·rw [decide_eq_false hlm]
   cases h : alikeB (laidR (chP 0 l ++ chP (2 * l.length + 1) m)).2.2.1 ((laidR (chP 0 l ++ chP (2 * l.length + 1) m)).1.getD (2 * l.length) 0) ((laidR (chP 0 l ++ chP (2 * l.length + 1) m)).1.getD (2 * l.length + 1 + 2 * m.length) 0)
   ·rfl
   ·exact absurd (hA.1 h) hlm
end Go.Proofs.YticimejfjjmikaaGreatDoor
namespace Go.Proofs.YticimejfjjmikaaGreatDoor
open Go.RowKit
section
variable {P : Program} {w : World} {ops : Array Oper} {o : Oper} {a : Act} {K : Act -> World -> Prop} {Q : Exit -> Act -> World -> Prop} {E : Prop}
theorem stepNode2 (dst : Option Nat) (hdst : o.dst = dst) (hgd : o.guard = none) (s x : Operand) (t : TypeId) (ho : o.op = .call { callee:=.builtin .append,args:=#[s,x],argTypes:=#[t,t] })
  (base : Nat) (e : TypeId) (ht : P.underlying t = some (.slice e)) (hi : (P.info? e).map (fun i=>(i.zero,i.size,i.bytes)) = some (some (.agg #[.int .i64 0,.int .i64 0,.string ByteArray.empty,.slice none 0 0]),4,56))
  (v : Value) (n : Nat) (xs : List Value) (hs : a.eval s = v) (hown : w.ownsRow base e 4 v n xs)
  (g0 c : Nat) (d d2 : Nd × (Option Addr × Nat × Nat)) (hx : a.eval x = .slice (some ⟨g0,0,none⟩) 2 c) (hd : w.heap[g0]? = some (.cells (nc d ++ nc d2).toArray e (0,0))) (hsm : n <= 1000000) (hbase : base <= w.heap.size)
  (h : ∀ g cap w',w'.ownsRow base e 4 (.slice (some ⟨g,0,none⟩) (n + 2) cap) (n + 2) (xs ++ (nc d ++ nc d2)) -> w.grownBy w' v.ownBlock -> (v.ownBlock = some g \/ g = w.heap.size) -> g < w'.heap.size -> K (a.put dst (.slice (some ⟨g,0,none⟩) (n + 2) cap)) w') :
  if Region.wanted o (yielded ops a.tmps) = true then Oper.wp P o a w K Q else E:=by
 subst hdst
 have hw : Region.wanted o (yielded ops a.tmps) = true:=by simp [Region.wanted,hgd]
 rw [if_pos hw]
 obtain ⟨i0,hi0,hz0,hz1,hz2⟩:=info_parts hi
 refine wp_append_lies w s x t ho base e i0 _ 4 56 ht hi0 hz0 hz1 hz2 rfl (by decide) v n xs hs hown ⟨g0,0,none⟩ 2 c (nc d ++ nc d2) hx rfl ?_ ?_ (by decide) (by unfold maxLen;omega) (by omega) hbase w.heap.size rfl h
 ·intro j u hj
  have hc:=blk_cell hd j
  rw [List.getElem?_toArray,hj] at hc
  unfold Addr.add
  by_cases hj0 : j = 0
  ·subst hj0;simpa using hc
  ·rw [if_neg hj0];simpa using hc
 ·intro u hu
  rcases List.mem_append.1 hu with hu | hu <;>(simp [nc] at hu;rcases hu with rfl | rfl | rfl | rfl <;> rfl)
end
structure LM (gb : Nat) (W0 : World) (v : Value) (ls : List (Nd × (Option Addr × Nat × Nat))) (w : World) : Prop where
 box : w.heap[gb]? = some (.cells #[v,.slice none 0 0] 34 (0,0))
 own : NOwn (gb + 1) w v ls
 bel : Below gb W0 w
section
variable {gb : Nat} {W0 : World} {v : Value} {ls : List (Nd × (Option Addr × Nat × Nat))} {w w' : World}
theorem LM.size (h : LM gb W0 v ls w) : gb + 1 <= w.heap.size:=(Array.getElem?_eq_some_iff.1 h.box).1
theorem LM.on (h : LM gb W0 v ls w) (hb : Below w.heap.size w w') : LM gb W0 v ls w' :=
 ⟨(hb.block gb h.size).trans h.box,h.own.below hb,h.bel.trans (hb.mono (by have:=h.size;omega))⟩
theorem LM.cell (h : LM gb W0 v ls w) : w.cell? ⟨gb,0,none⟩ = some v /\ w.cell? ⟨gb,1,none⟩ = some (.slice none 0 0) /\ w.frozen? ⟨gb,0,none⟩ = false:=⟨blk_cell h.box 0,blk_cell h.box 1,blk_free h.box 0⟩
theorem LM.form (h : LM gb W0 v ls w) : ∃ ao cap,v = .slice ao ls.length cap /\ ls.length <= cap /\ cap <= maxLen:=by
 obtain ⟨ao,cap,rfl,hr⟩:=h.own.row
 exact ⟨ao,cap,rfl,hr.fits,hr.most⟩
theorem LM.free (h : LM gb W0 v ls w) : v.ownBlock ≠ some gb:=fun e=>by have:=(h.own.own.lt gb e).1;omega
theorem LM.push (h : LM gb W0 v ls w) {g cap k : Nat} {ds : List (Nd × (Option Addr × Nat × Nat))} (hk : ds.length = k)
  (ho : w'.ownsRow (gb + 1) 54 4 (.slice (some ⟨g,0,none⟩) (ls.length + k) cap) (ls.length + k) (ncs ls ++ ncs ds)) (hg : w.grownBy w' v.ownBlock) (hl : v.ownBlock = some g \/ g = w.heap.size)
  (hd : ∀ x∈ds,NdOk x.1) (hds : ∀ x∈ds,IRow w x.2.1 x.2.2.1 x.2.2.2 x.1.kids /\ ∀ ad,x.2.1 = some ad -> gb + 1 <= ad.block /\ ad.block < w.heap.size /\ v.ownBlock ≠ some ad.block) :
  w'.frozen? ⟨gb,0,none⟩ = false /\ w'.cell? ⟨gb,0,none⟩ = some v /\ LM gb W0 (.slice (some ⟨g,0,none⟩) (ls.length + k) cap) (ls ++ ds) (w'.setCell ⟨gb,0,none⟩ (.slice (some ⟨g,0,none⟩) (ls.length + k) cap)):=by
 subst hk
 have hsz:=h.size
 have hgb : gb + 1 <= g:=by
  rcases ho.2 with ⟨h,_⟩ | ⟨g',cap',cur,h,h2,_⟩
  ·cases h
  ·cases h;exact h2
 have hb':=(hg.block gb (by omega) (fun e=>h.free e.symm)).trans h.box
 have hs : (w'.setCell ⟨gb,0,none⟩ (.slice (some ⟨g,0,none⟩) (ls.length + ds.length) cap)).heap.size = w'.heap.size:=by simp [World.setCell]
 have key : ∀ (x : Nd × (Option Addr × Nat × Nat)),IRow w x.2.1 x.2.2.1 x.2.2.2 x.1.kids -> (∀ ad,x.2.1 = some ad -> gb + 1 <= ad.block /\ ad.block < w.heap.size /\ v.ownBlock ≠ some ad.block) ->
   IRow (w'.setCell ⟨gb,0,none⟩ (.slice (some ⟨g,0,none⟩) (ls.length + ds.length) cap)) x.2.1 x.2.2.1 x.2.2.2 x.1.kids /\ (∀ ad,x.2.1 = some ad -> gb + 1 <= ad.block /\ ad.block < (w'.setCell ⟨gb,0,none⟩ (.slice (some ⟨g,0,none⟩) (ls.length + ds.length) cap)).heap.size /\ (Value.slice (some ⟨g,0,none⟩) (ls.length + ds.length) cap).ownBlock ≠ some ad.block):=by
  intro x hx hxb
  refine ⟨hx.frame (by rw [hs];exact hg.size) (fun ad had=>?_),fun ad had=>?_⟩
  ·obtain ⟨q1, q2, q3⟩ := hxb ad had
   exact (Below.heap_setCell _ _ _ _ (by show ad.block ≠ gb;omega)).trans (hg.block _ q2 (fun e=>q3 e.symm))
  ·obtain ⟨q1, q2, q3⟩ := hxb ad had
   refine ⟨q1,by rw [hs];exact Nat.lt_of_lt_of_le q2 hg.size,fun e=>?_⟩
   have e' : g = ad.block:=Option.some.inj e
   rcases hl with h' | h'
   ·exact q3 (by rw [h',e'])
   ·omega
 refine ⟨blk_free hb' 0,blk_cell hb' 0,?_,⟨?_,?_,?_⟩,?_⟩
 ·have := blk_set (i := 0) hb' (.slice (some ⟨g, 0, none⟩) (ls.length + ds.length) cap)
  rw [this];simp
 ·have e1 : ncs (ls ++ ds) = ncs ls ++ ncs ds := by simp [ncs]
  rw [e1,List.length_append]
  refine ⟨ho.1,?_⟩
  rcases ho.2 with ⟨h,_⟩ | ⟨g',cap',cur,h1,h2,h3,h4⟩
  ·cases h
  ·cases h1
   exact .inr ⟨g,cap,cur,rfl,h2,(Below.heap_setCell _ _ _ _ (by show g ≠ gb;omega)).trans h3,h4⟩
 ·intro x hx
  rcases List.mem_append.1 hx with hx | hx
  ·exact key x (h.own.kids x hx).1 (h.own.kids x hx).2
  ·exact key x (hds x hx).1 (hds x hx).2
 ·intro x hx
  rcases List.mem_append.1 hx with hx | hx
  ·exact h.own.ok x hx
  ·exact hd x hx
 ·have h1 : Below gb w w' := ⟨hg.os, hg.tape, hg.output, hg.size, fun b hb => hg.block b (by omega) (fun e => by have := (h.own.own.lt b e.symm).1; omega)⟩
  exact (h.bel.trans h1).setCell (p:=⟨gb,0,none⟩) (Nat.le_refl _) _
end
end Go.Proofs.YticimejfjjmikaaGreatDoor
namespace Go.Proofs.YticimejfjjmikaaGreatDoor
open Go.RowKit
theorem cell_ltA {w : World} {p : Addr} {a : Value} (h : w.cell? p = some a) : p.block < w.heap.size:=by
 unfold World.cell? at h
 cases e : w.heap[p.block]? with
 | none=>rw [e] at h;cases h
 | some o=>exact (Array.getElem?_eq_some_iff.1 e).1
end Go.Proofs.YticimejfjjmikaaGreatDoor
namespace Go.Proofs.YticimejfjjmikaaGreatDoor
open Go
section
variable {P : Program} {ops : Array Oper} {Q : Exit -> Act -> World -> Prop} {md : Region.Mode} {S : World -> Prop} {k : Nat}
def wpAnyK (P : Program) (md : Region.Mode) (ops : Array Oper) (Q : Exit -> Act -> World -> Prop) (S : World -> Prop) (k : Nat) : Nat -> Array Bool -> Act -> World -> Prop
 | 0,listed,a,w=>Region.ready md ops listed = [] /\ Q .normal a w
 | fuel + 1,listed,a,w =>
  (Region.ready md ops listed = [] -> Q .normal a w) /\
  ∀ i∈Region.ready md ops listed,wpOp P ops Q i (fun a' w'=>(i ≠ k -> S w') /\ wpAnyK P md ops Q S k fuel (listed.setIfInBounds i true) a' w') a w
theorem wpAny_of_K : ∀ (fuel : Nat) (listed : Array Bool) (a : Act) (w : World),wpAnyK P md ops Q S k fuel listed a w -> wpAny P md ops Q fuel listed a w
 | 0,_,_,_,h=>h
 | fuel + 1,_,_,_,h=>⟨h.1,fun i hi=>wpOp_mono (fun a' w' h'=>wpAny_of_K fuel _ a' w' h'.2) (h.2 i hi)⟩
def waitsB (md : Region.Mode) (ops : Array Oper) (x y : Nat) : Bool :=
 match ops[x]? with
 | some o=>o.after.any (fun e=>Region.binds md e && e.on == y)
 | none=>false
def chainB (md : Region.Mode) (ops : Array Oper) (listed : Array Bool) : List Nat -> Bool
 | []=>true
 | [x]=>!(listed.getD x true)
 | x :: y :: r=>!(listed.getD x true) && waitsB md ops x y && chainB md ops listed (y :: r)
theorem chain_un {listed : Array Bool} : ∀ {c : List Nat},chainB md ops listed c = true -> ∀ x∈c,listed.getD x true = false
 | [],_,x,hx=>by cases hx
 | [y],h,x,hx=>by
  obtain rfl:=List.mem_singleton.1 hx
  unfold chainB at h
  generalize listed.getD x true = b at h ⊢
  cases b
  ·rfl
  ·cases h
 | y :: z :: r, h, x, hx => by
  unfold chainB at h
  rw [Bool.and_eq_true,Bool.and_eq_true] at h
  rcases List.mem_cons.1 hx with rfl | hx
  ·have h1 := h.1.1
   generalize listed.getD x true = b at h1 ⊢
   cases b
   ·rfl
   ·cases h1
  ·exact chain_un h.2 x hx
theorem chain_last {listed : Array Bool} {j : Nat} (hj : j∈Region.ready md ops listed) : ∀ {c : List Nat} (i : Nat),chainB md ops listed c = true -> c.getLast? = some i -> j∈c -> j = i
 | [],i,_,h,_=>by cases h
 | [y],i,_,h,hm=>by
  obtain rfl:=List.mem_singleton.1 hm
  exact Option.some.inj h
 | y :: z :: r, i, hc, h, hm => by
  have hc':=hc
  unfold chainB at hc
  rw [Bool.and_eq_true,Bool.and_eq_true] at hc
  rcases List.mem_cons.1 hm with rfl | hm
  ·exfalso
   obtain ⟨_,o,ho,hall⟩:=mem_ready.1 hj
   have h2:=hc.1.2
   unfold waitsB at h2
   rw [ho] at h2
   obtain ⟨e,he,hb⟩:=Array.any_eq_true'.1 h2
   rw [Bool.and_eq_true,beq_iff_eq] at hb
   have h3:=hall e he hb.1
   rw [hb.2] at h3
   have h4:=chain_un hc' z (List.mem_cons_of_mem _ (List.mem_cons_self ..))
   rcases Nat.lt_or_ge z listed.size with h' | h'
   ·simp [h'] at h3 h4;rw [h4] at h3;cases h3
   ·simp [Array.getElem?_eq_none h'] at h3
  ·exact chain_last hj i hc.2 (by rw [List.getLast?_cons_cons] at h;exact h) hm
theorem chain_set {listed : Array Bool} {j : Nat} : ∀ {c : List Nat},chainB md ops listed c = true -> j ∉ c -> chainB md ops (listed.setIfInBounds j true) c = true
 | [],_,_=>rfl
 | [y],h,hj=>by
  unfold chainB at h ⊢
  rw [getD_set_ne true (fun e=>hj (by rw [e];exact List.mem_cons_self ..))]
  exact h
 | y :: z :: r,h,hj=>by
  unfold chainB at h ⊢
  rw [Bool.and_eq_true,Bool.and_eq_true] at h ⊢
  rw [getD_set_ne true (fun e=>hj (by rw [e];exact List.mem_cons_self ..))]
  exact ⟨h.1,chain_set h.2 (fun hm=>hj (List.mem_cons_of_mem _ hm))⟩
def aheadB (md : Region.Mode) (ops : Array Oper) (listed : Array Bool) : Nat -> Nat -> Nat -> Bool
 | 0,_,_=>false
 | f + 1,k,i=>!(listed.getD k true) && (waitsB md ops k i || (List.range ops.size).any (fun y=>waitsB md ops k y && aheadB md ops listed f y i))
theorem ahead_chain {listed : Array Bool} {i : Nat} (hu : listed.getD i true = false) : ∀ (f k : Nat),aheadB md ops listed f k i = true -> ∃ c,chainB md ops listed (k :: c) = true /\ (k :: c).getLast? = some i
 | 0,k,h=>by cases h
 | f + 1, k, h => by
  unfold aheadB at h
  rw [Bool.and_eq_true,Bool.or_eq_true] at h
  rcases h.2 with h2 | h2
  ·refine ⟨[i], ?_, rfl⟩
   unfold chainB chainB
   rw [h.1,h2,hu]
   rfl
  ·obtain ⟨y, _, hy⟩ := List.any_eq_true.1 h2
   rw [Bool.and_eq_true] at hy
   obtain ⟨c,c1,c2⟩:=ahead_chain hu f y hy.2
   refine ⟨y :: c,?_,by rw [List.getLast?_cons_cons];exact c2⟩
   unfold chainB
   rw [h.1,hy.1,c1]
   rfl
theorem wpAnyK_first {i : Nat} {oi : Oper} {v : Value} (hi : ops[i]? = some oi) (hsel : ∀ (j : Nat) (o : Oper) cs b,ops[j]? = some o -> o.op ≠ .select cs b)
  (hQ : ∀ c a w,Q (.panic c) (a.put oi.dst v) w -> Q (.panic c) a w) (c : List Nat) (hl : (k :: c).getLast? = some i) (hki : k ≠ i) :
  ∀ (fuel : Nat) (listed : Array Bool) (a : Act) (w : World),
   (∀ j oj,ops[j]? = some oj -> j ≠ i -> listed.getD j true = false -> (∀ e∈oj.after,Region.binds md e = true -> e.on ≠ i) -> oi.apart ops oj = true) ->
   i∈Region.ready md ops listed -> chainB md ops listed (k :: c) = true -> YieldsIf P ops S oi v a -> S w ->
   wpAnyK P md ops Q S k fuel (listed.setIfInBounds i true) (a.put oi.dst v) w -> wpAnyK P md ops Q S k (fuel + 1) listed a w:=by
 intro fuel
 induction fuel with
 | zero =>
  intro listed a w _ hr _ hy hS H
  refine ⟨fun h=>(by rw [h] at hr;cases hr),fun j hj=>?_⟩
  by_cases hji : j = i
  ·subst hji;exact hy.wpOp hi hS ⟨fun _=>hS,H⟩
  ·have := ready_mono hj hji
   rw [H.1] at this
   cases this
 | succ fuel ih =>
  intro listed a w hfree hr hch hy hS H
  refine ⟨fun h=>(by rw [h] at hr;cases hr),fun j hj=>?_⟩
  by_cases hji : j = i
  ·subst hji;exact hy.wpOp hi hS ⟨fun _=>hS,H⟩
  ·have h1 := H.2 j (ready_mono hj hji)
   obtain ⟨hjun,oj,hoj,hall⟩:=mem_ready.1 hj
   have hnot : ∀ e∈oj.after,Region.binds md e = true -> e.on ≠ i:=fun e he hb heq=>by
    have h1:=hall e he hb
    have h0:=(mem_ready.1 hr).1
    rw [heq] at h1
    rcases Nat.lt_or_ge i listed.size with h' | h'
    ·simp [h'] at h0 h1;rw [h0] at h1;cases h1
    ·simp [Array.getElem?_eq_none h'] at h1
   have h2:=wpOp_putIf hoj (hfree j oj hoj hji hjun hnot) (fun cs b=>hsel i oi cs b hi) (fun cs b=>hsel j oj cs b hoj) hQ hy h1
   have hfree' : ∀ k ok,ops[k]? = some ok -> k ≠ i -> (listed.setIfInBounds j true).getD k true = false ->
     (∀ e∈ok.after,Region.binds md e = true -> e.on ≠ i) -> oi.apart ops ok = true:=fun k ok hk hki hun hno=>by
    refine hfree k ok hk hki ?_ hno
    by_cases hjk : j = k
    ·subst hjk;exact hjun
    ·rw [getD_set_ne true hjk] at hun;exact hun
   have hn : j ∉ k :: c:=fun hm=>hji (chain_last hj i hch hl hm)
   have hjk : j ≠ k:=fun e=>hn (by rw [e];exact List.mem_cons_self ..)
   refine wpOp_mono (fun a' w' h3=>⟨h3.2.1,ih (listed.setIfInBounds j true) a' w' hfree' (ready_mono hr (Ne.symm hji)) (chain_set hch hn) h3.1 (h3.2.1 hjk) ?_⟩) h2
   rw [Array.setIfInBounds_comm _ _ hji]
   exact h3.2.2
theorem ktake (i : Nat) (d : Option Nat) (v : Value) {oi : Oper} {fuel : Nat} {listed : Array Bool} {a : Act} {w : World} (hi : ops[i]? = some oi) (hd : oi.dst = d)
  (hs : Region.noSelect ops = true) (hf : Region.free md ops listed i = true) (hr : (Region.ready md ops listed).contains i = true) (hk : (k != i && aheadB md ops listed ops.size k i) = true)
  (hQ : ∀ c a w,Q (.panic c) (a.put d v) w -> Q (.panic c) a w) (hy : YieldsIf P ops S oi v a) (hS : S w)
  (h : wpAnyK P md ops Q S k fuel (listed.setIfInBounds i true) (a.put d v) w) : wpAnyK P md ops Q S k (fuel + 1) listed a w:=by
 subst hd
 rw [Bool.and_eq_true] at hk
 have hr' : i∈Region.ready md ops listed:=by simpa using hr
 obtain ⟨c,c1,c2⟩:=ahead_chain (mem_ready.1 hr').1 _ _ hk.2
 exact wpAnyK_first hi (Region.noSelect_spec hs) hQ c c2 (by simpa using hk.1) fuel listed a w (Region.free_spec hi hf) hr' c1 hy hS h
def AllReadyK (P : Program) (md : Region.Mode) (ops : Array Oper) (Q : Exit -> Act -> World -> Prop) (S : World -> Prop) (k : Nat) (fuel : Nat) (listed : Array Bool) (a : Act) (w : World) (rs : List Nat) : Prop :=
 ∀ i∈rs,wpOp P ops Q i (fun a' w'=>(i ≠ k -> S w') /\ wpAnyK P md ops Q S k fuel (listed.setIfInBounds i true) a' w') a w
theorem AllReadyK.nil {fuel : Nat} {listed : Array Bool} {a : Act} {w : World} : AllReadyK P md ops Q S k fuel listed a w []:=fun _ h=>by cases h
theorem AllReadyK.cons {fuel : Nat} {listed : Array Bool} {a : Act} {w : World} {i : Nat} {o : Oper} {rs : List Nat} (ho : ops[i]? = some o)
  (h : ∀ K' : Act -> World -> Prop,Shut (∀ a w,S w -> (S w -> wpAnyK P md ops Q S k fuel (listed.setIfInBounds i true) a w) -> K' a w) -> if Region.wanted o (yielded ops a.tmps) = true then Oper.wp P o a w K' Q else K' (a.put o.dst undef) w)
  (hs : AllReadyK P md ops Q S k fuel listed a w rs) : AllReadyK P md ops Q S k fuel listed a w (i :: rs):=fun j hj=>by
 rcases List.mem_cons.1 hj with rfl | hj
 ·exact wpOp_step ho (fun K' hK=>h K' (fun a w hS hW=>hK a w ⟨fun _=>hS,hW hS⟩))
 ·exact hs j hj
theorem wpAnyK_ready {rs : List Nat} {fuel : Nat} {listed : Array Bool} {a : Act} {w : World} (hr : Region.ready md ops listed = rs) (hne : rs ≠ [])
  (h : AllReadyK P md ops Q S k fuel listed a w rs) : wpAnyK P md ops Q S k (fuel + 1) listed a w:=⟨fun h0=>absurd (hr ▸ h0) hne,hr ▸ h⟩
theorem kone (i : Nat) (o : Oper) {fuel : Nat} {listed : Array Bool} {a : Act} {w : World} (ho : ops[i]? = some o) (hr : Region.ready md ops listed = [i])
  (h : ∀ K' : Act -> World -> Prop,Shut (∀ a w,S w -> (S w -> wpAnyK P md ops Q S k fuel (listed.setIfInBounds i true) a w) -> K' a w) -> if Region.wanted o (yielded ops a.tmps) = true then Oper.wp P o a w K' Q else K' (a.put o.dst undef) w) :
  wpAnyK P md ops Q S k (fuel + 1) listed a w:=wpAnyK_ready hr (by simp) (AllReadyK.cons ho h AllReadyK.nil)
theorem ktwo (i j : Nat) (o o' : Oper) {fuel : Nat} {listed : Array Bool} {a : Act} {w : World} (ho : ops[i]? = some o) (ho' : ops[j]? = some o') (hr : Region.ready md ops listed = [i,j])
  (h : ∀ K' : Act -> World -> Prop,Shut (∀ a w,S w -> (S w -> wpAnyK P md ops Q S k fuel (listed.setIfInBounds i true) a w) -> K' a w) -> if Region.wanted o (yielded ops a.tmps) = true then Oper.wp P o a w K' Q else K' (a.put o.dst undef) w)
  (h' : ∀ K' : Act -> World -> Prop,Shut (∀ a w,S w -> (S w -> wpAnyK P md ops Q S k fuel (listed.setIfInBounds j true) a w) -> K' a w) -> if Region.wanted o' (yielded ops a.tmps) = true then Oper.wp P o' a w K' Q else K' (a.put o'.dst undef) w) :
  wpAnyK P md ops Q S k (fuel + 1) listed a w:=wpAnyK_ready hr (by simp) (AllReadyK.cons ho h (AllReadyK.cons ho' h' AllReadyK.nil))
theorem klast (o : Oper) {fuel : Nat} {listed : Array Bool} {a : Act} {w : World} (ho : ops[k]? = some o) (hr : Region.ready md ops listed = [k]) (hd : Region.ready md ops (listed.setIfInBounds k true) = [])
  (h : ∀ K' : Act -> World -> Prop,Shut (∀ a w,Q .normal a w -> K' a w) -> if Region.wanted o (yielded ops a.tmps) = true then Oper.wp P o a w K' Q else K' (a.put o.dst undef) w) :
  wpAnyK P md ops Q S k (fuel + 1) listed a w:=by
 refine ⟨fun h0=>absurd (hr ▸ h0) (by simp),hr ▸ fun i hi=>?_⟩
 obtain rfl:=List.mem_singleton.1 hi
 refine wpOp_step ho (fun K' hK=>h K' (fun a w hq=>hK a w ⟨fun h=>absurd rfl h,?_⟩))
 cases fuel with
 | zero=>exact ⟨hd,hq⟩
 | succ f=>exact ⟨fun _=>hq,by rw [hd];intro _ h;cases h⟩
theorem wp_region_K {id : Nat} {a : Act} {w : World} (k : Nat) (hm : P.follows .mixedOrders = true) (hS : S w.drew)
  (h : S w.drew -> wpAnyK P .any ops Q S k ops.size (Array.replicate ops.size false) a w.drew) : (Code.region id ops true).wp P Q a w :=
 wp_region_any hm (wpAny_of_K _ _ _ _ (h hS))
end
end Go.Proofs.YticimejfjjmikaaGreatDoor
