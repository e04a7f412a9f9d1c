import Derived.Test.YticimejfjjmikaaGreatDoorT1
import Derived.Deep.LoopGhost
set_option linter.unusedVariables false
set_option linter.unusedSimpArgs false
set_option maxRecDepth 100000
namespace Go.Proofs.YticimejfjjmikaaGreatDoor
open Go.RowKit
theorem Fv.fresh {ns : List Nd} {nn : Nat} {o : Int} {st pt ord : List Int} {f : Nat} (h : Fv ns nn (o :: st) pt ord (f + 1)) (hp : pt.getD o.toNat 0 = -1) : Fv ns nn ((ns.getD o.toNat default).kids ++ st) (pt.set o.toNat ord.length) (ord ++ [(o.toNat : Int)]) f:=by
 obtain ⟨h0,h1⟩:=h.rng o (by simp)
 have hi : o.toNat < nn:=by omega
 refine ⟨by rw [List.length_set];exact h.plen,h.nlen,h.kids,?_,?_,?_⟩
 ·intro y hy
  rcases List.mem_append.1 hy with hy | hy
  ·exact places_rng (h.kids _ (getD_mem_nd (by rw [h.nlen];exact hi))) y hy
  ·exact h.rng y (by simp [hy])
 ·have := um_set (ns := ns) (pl := pt) (i := o.toNat) (z := (ord.length : Int)) (by rw [h.nlen]; exact hi) (by rw [h.plen]; exact hi) hp (by omega)
  have h2:=h.fu
  simp at h2
  rw [List.length_append];omega
 ·have := count_set (l := pt) (i := o.toNat) (z := (ord.length : Int)) (by rw [h.plen]; exact hi) hp (by omega)
  have h2:=h.cnt
  rw [List.length_append,List.length_singleton];omega
def bareN (ns : List Nd) (o : Int) : Nd:={ ns.getD o.toNat default with kids:=[] }
def Pos (pt : List Int) : Prop:=∀ z∈pt,z = -1 \/ 0 <= z /\ z <= 2500
theorem Pos.set {pt : List Int} (h : Pos pt) (i : Nat) (z : Int) (hz : 0 <= z /\ z <= 2500) : Pos (pt.set i z):=fun x hx=>by
 rcases mem_set_or hx with rfl | hx
 ·exact .inr hz
 ·exact h x hx
theorem Pos.start_ (n : Nat) : Pos (List.replicate n (-1)):=fun z hz=>by obtain ⟨_,rfl⟩:=List.mem_replicate.1 hz;exact .inl rfl
theorem Pos.i64 {pt : List Int} (h : Pos pt) : ∀ z∈pt,I64 z:=fun z hz=>by rcases h z hz with e | e <;>(unfold I64;omega)
theorem blk_irow {w : World} {g : Nat} {l : List Int} (h : Blk w g l) (hl : l.length <= 2500) (hb : ∀ z∈l,I64 z) : IRow w (some ⟨g,0,none⟩) l.length l.length l :=
 ⟨rfl,Nat.le_refl _,by unfold maxLen;omega,fun e=>(by cases e),hb,.inr ⟨g,0,rfl,h.lt,fun i hi=>by rw [Nat.zero_add];exact h.cell hi⟩⟩
theorem rev_drop {rs : List Int} {k : Nat} (h : k < rs.length) : (rs.drop k).reverse = (rs.drop (k + 1)).reverse ++ [rs.getD k 0]:=by
 rw [List.drop_eq_getElem_cons h,List.reverse_cons,List.getD_eq_getElem?_getD,List.getElem?_eq_getElem h];rfl
theorem own_form {w : World} {base : Nat} {e : TypeId} {k : Nat} {v : Value} {n : Nat} {xs : List Value} (h : w.ownsRow base e k v n xs) : ∃ ao cap,v = .slice ao n cap /\ n <= cap /\ cap <= 9223372036854775807 /\ (0 < n -> ∃ g,ao = some ⟨g,0,none⟩):=by
 rcases h.2 with ⟨rfl,h0⟩ | ⟨g,cap,cur,rfl,h2,h3,h4,h5,_⟩
 ·subst h0;exact ⟨none,0,rfl,by omega,by omega,fun h=>by omega⟩
 ·exact ⟨_,_,rfl,h4,by unfold maxLen at h5;omega,fun _=>⟨g,rfl⟩⟩
theorem osame_bare (ns : List Nd) (lo : List Int) : ∀ j,j < lo.length -> sameA ((lo.map (bareN ns)).getD j default) (ns.getD (lo.getD j 0).toNat default):=fun j hj=>by
 rw [getD_map_nd hj];exact ⟨rfl,rfl,rfl⟩
theorem atoms_i64 (ns : List Nd) {lo : List Int} (h : lo.length <= 2500) : ∀ z∈atomsL ns lo 0,I64 z:=fun z hz=>by
 have:=atomsL_rng ns lo 0 z hz;unfold I64;omega
theorem rmet_neg {ns : List Nd} {pt ord : List Int} {n : Nat} (h : ¬ 0 <= rmetS ns pt ord n) (hp : Pos pt) (hn : n < pt.length) : pt.getD n 0 = -1:=by
 have hm : pt.getD n 0∈pt:=by rw [List.getD_eq_getElem?_getD,List.getElem?_eq_getElem hn];exact List.getElem_mem hn
 rcases hp _ hm with e | e
 ·exact e
 ·exfalso;apply h;rw [rmetS_self (.inl e.1)];exact e.1
theorem gx_keep {w w' : World} {r : Option Nat} {gx : Nat} {c : Obj} (hg : w.grownBy w' r) (hx : w.heap[gx]? = some c) (hr : r ≠ some gx) : w'.heap[gx]? = some c:=(hg.block gx (Array.getElem?_eq_some_iff.1 hx).1 (fun e=>hr e.symm)).trans hx
theorem ne_fresh {w : World} {base : Nat} {e : TypeId} {k n g : Nat} {v : Value} {xs : List Value} (h : w.ownsRow base e k v n xs) (hg : w.heap.size <= g) : v.ownBlock ≠ some g:=fun e=>by have:=(h.lt g e).2;omega
theorem RC.met {w Wb : World} {go gat : Nat} {vo vt : Value} {aA : Option Addr} {nA cA : Nat} {pt lo stk : List Int} {ns : List Nd} {an : Option Addr} {nn cn : Nat} {aN : Option Addr} {nN cN : Nat} {wr : World}
  (h : RC w Wb go gat (.slice aN nN cN) vo vt (.slice aA nA cA) pt lo (atomsL ns lo 0) stk (lo.map (bareN ns)) wr) (hl : lo.length <= nn) (hp : pt.length = nn) (hnn : nn <= 2500) (hpos : Pos pt) (hN : NRow wr an nn cn ns) :
  MetIn wr aN nN cN (lo.map (bareN ns)) (some ⟨gat,0,none⟩) nn pt aA nA cA ns lo an nn cn:=by
 obtain ⟨ao,cap,e,hr⟩:=h.nrow
 cases e
 obtain ⟨a2,c2,e2,hA⟩:=irow_of h.atoms (atoms_i64 ns (by omega))
 cases e2
 have hP:=blk_irow h.at_ (by omega) hpos.i64
 rw [hp] at hP
 exact ⟨hr,by simp,osame_bare ns lo,hP,hA,hN,⟨hnn,by simp;omega⟩⟩
theorem rlo_rng {ns : List Nd} {rs : List Int} {f : Nat} (h : Fine ns rs f) (hf : rs.length + 100 * ns.length <= f) : ∀ z∈(rfollowS ns f rs (start ns.length).1 (start ns.length).2).2,0 <= z /\ z < ns.length:=by
 obtain ⟨q0,q1,q2⟩:=h.ends
 obtain ⟨hk,hr⟩:=goodG_parts h.good
 have hrr:=places_rng hr
 have hst : ∀ i,i < ns.length -> (start ns.length).1.getD i 0 = -1:=fun i hi=>by
  rcases start_get ns.length i with q | q
  ·exact q
  ·omega
 have hF : Fv ns ns.length rs (start ns.length).1 (start ns.length).2 f:=⟨by simp [start],rfl,hk,hrr,by have:=um_le (ns:=ns) (pl:=(start ns.length).1) h.kids;omega,by simp [start]⟩
 have e0 : endS ns rs f = followS ns f rs (start ns.length).1 (start ns.length).2:=followR_all hF
 have R0 : Rr ns (start ns.length).1 (start ns.length).1 (start ns.length).2:=⟨by simp [start],by simp [start],fun i hi hp=>absurd (hst i hi) hp,fun i hi hp=>absurd (hst i hi) hp,fun i hi hp=>absurd (hst i hi) hp⟩
 obtain ⟨R,eo⟩:=rsim (goodG_bare h.good) hk (f:=f) (st:=rs) hrr R0
 rw [eo,<- e0]
 exact q0.rng
theorem set_self_arr {cur : Array Value} {j : Nat} {v : Value} (h : cur[j]? = some v) : cur.setIfInBounds j v = cur:=by
 apply Array.ext
 ·simp
 ·intro k h1 h2
  rw [Array.getElem_setIfInBounds]
  split
  ·rename_i e
   subst e
   have:=(Array.getElem?_eq_some_iff.1 h).2
   exact this.symm
  ·rfl
def SS (go gg bk ok : Nat) (v0 v1 g0 g1 : Value) (z : Int) (wx : World) : Prop:=wx.cell? ⟨go,0,none⟩ = some v0 /\ wx.cell? ⟨go,1,none⟩ = some v1 /\ wx.cell? ⟨gg,0,none⟩ = some g0 /\ wx.cell? ⟨gg,1,none⟩ = some g1 /\ wx.cell? ⟨bk,ok,none⟩ = some (.int .i64 z)
theorem SS.far {go gg bk ok : Nat} {v0 v1 g0 g1 : Value} {z : Int} {wx wy : World} (h : SS go gg bk ok v0 v1 g0 g1 z wx) (h1 : wy.heap[go]? = wx.heap[go]?) (h2 : wy.heap[gg]? = wx.heap[gg]?) (h3 : wy.heap[bk]? = wx.heap[bk]?) : SS go gg bk ok v0 v1 g0 g1 z wy :=
 ⟨(World.cell?_of_block (a:=⟨go,0,none⟩) h1).trans h.1,(World.cell?_of_block (a:=⟨go,1,none⟩) h1).trans h.2.1,(World.cell?_of_block (a:=⟨gg,0,none⟩) h2).trans h.2.2.1,(World.cell?_of_block (a:=⟨gg,1,none⟩) h2).trans h.2.2.2.1,(World.cell?_of_block (a:=⟨bk,ok,none⟩) h3).trans h.2.2.2.2⟩
theorem SS.on {go gg bk ok : Nat} {v0 v1 g0 g1 : Value} {z : Int} {wx wy : World} (h : SS go gg bk ok v0 v1 g0 g1 z wx) (hb : Below wx.heap.size wx wy) : SS go gg bk ok v0 v1 g0 g1 z wy :=
 h.far (hb.block _ (cell_lt h.1)) (hb.block _ (cell_lt h.2.2.1)) (hb.block _ (cell_lt h.2.2.2.2))
structure MSt (Wz : World) (v : Value) (r : Int) (k : Nat) (al : Bool) (t1 t2 t3 : Value) (wx : World) : Prop where
 bel : Below Wz.heap.size Wz wx
 i0 : al = true -> t1 = v
 i1 : 1 <= k -> t2 = .int .i64 r
 i2 : 2 <= k -> ∃ g,t3 = .slice (some ⟨g,0,none⟩) 1 1 /\ wx.heap[g]? = some (.cells #[.int .i64 r] 3 (0,0))
section
variable {Wz wx wy : World} {v : Value} {r : Int} {k : Nat} {al : Bool} {t1 t2 t3 : Value}
theorem MSt.mk0 (hb : Below Wz.heap.size Wz wx) : MSt Wz v r 0 false t1 t2 t3 wx:=⟨hb,fun e=>(by cases e),fun e=>by omega,fun e=>by omega⟩
theorem MSt.load (h : MSt Wz v r k false t1 t2 t3 wx) : MSt Wz v r k true v t2 t3 wx:=⟨h.bel,fun _=>rfl,h.i1,h.i2⟩
theorem MSt.call (h : MSt Wz v r 0 al t1 t2 t3 wx) (hb : Below wx.heap.size wx wy) : MSt Wz v r 1 al t1 (.int .i64 r) t3 wy:=⟨Bt h.bel hb,h.i0,fun _=>rfl,fun e=>by omega⟩
theorem MSt.build (h : MSt Wz v r 1 al t1 t2 t3 wx) : MSt Wz v r 2 al t1 t2 (.slice (some ⟨wx.heap.size,0,none⟩) 1 1) (wx.alloc (.cells #[.int .i64 r] 3)) :=
 ⟨Bt h.bel (Ba _ _),h.i0,fun _=>h.i1 (by omega),fun _=>⟨_,rfl,blk_new _ _ _⟩⟩
end
def Lkn (s : Nat × Bool) : Array Bool:=#[true,true,true,true,true,true,true,true,s.2,true,true,true,true,true,true,true,true,Nat.ble 1 s.1,Nat.ble 2 s.1,false,false,false,false]
structure NSt (Wz : World) (vG vR : Value) (r : Int) (k : Nat) (al : Bool) (t1 t2 t3 t4 : Value) (wx : World) : Prop where
 bel : Below Wz.heap.size Wz wx
 i0 : al = true -> t1 = vR
 j1 : 1 <= k -> t2 = vG
 i1 : 2 <= k -> t3 = .int .i64 r
 i2 : 3 <= k -> ∃ g,t4 = .slice (some ⟨g,0,none⟩) 1 1 /\ wx.heap[g]? = some (.cells #[.int .i64 r] 3 (0,0))
section
variable {Wz wx wy : World} {vG vR : Value} {r : Int} {k : Nat} {al : Bool} {t1 t2 t3 t4 : Value}
theorem NSt.mk0 (hb : Below Wz.heap.size Wz wx) : NSt Wz vG vR r 0 false t1 t2 t3 t4 wx:=⟨hb,fun e=>(by cases e),fun e=>by omega,fun e=>by omega,fun e=>by omega⟩
theorem NSt.load (h : NSt Wz vG vR r k false t1 t2 t3 t4 wx) : NSt Wz vG vR r k true vR t2 t3 t4 wx:=⟨h.bel,fun _=>rfl,h.j1,h.i1,h.i2⟩
theorem NSt.loadG (h : NSt Wz vG vR r 0 al t1 t2 t3 t4 wx) : NSt Wz vG vR r 1 al t1 vG t3 t4 wx:=⟨h.bel,h.i0,fun _=>rfl,fun e=>by omega,fun e=>by omega⟩
theorem NSt.call (h : NSt Wz vG vR r 1 al t1 t2 t3 t4 wx) (hb : Below wx.heap.size wx wy) : NSt Wz vG vR r 2 al t1 t2 (.int .i64 r) t4 wy:=⟨Bt h.bel hb,h.i0,fun _=>h.j1 (by omega),fun _=>rfl,fun e=>by omega⟩
theorem NSt.build (h : NSt Wz vG vR r 2 al t1 t2 t3 t4 wx) : NSt Wz vG vR r 3 al t1 t2 t3 (.slice (some ⟨wx.heap.size,0,none⟩) 1 1) (wx.alloc (.cells #[.int .i64 r] 3)) :=
 ⟨Bt h.bel (Ba _ _),h.i0,fun _=>h.j1 (by omega),fun _=>h.i1 (by omega),fun _=>⟨_,rfl,blk_new _ _ _⟩⟩
end
def Lrn (s : Nat × Bool) : Array Bool:=#[true,s.2,Nat.ble 1 s.1,true,true,true,true,true,true,true,true,Nat.ble 2 s.1,Nat.ble 3 s.1,false,false,false]
def Mrn (s : Nat × Bool) : Nat:=(3 - s.1) + (if s.2 then 0 else 1)
def TT (gg b o : Nat) (g0 g1 : Value) (z : Int) (wx : World) : Prop:=wx.cell? ⟨gg,0,none⟩ = some g0 /\ wx.cell? ⟨gg,1,none⟩ = some g1 /\ wx.cell? ⟨b,o,none⟩ = some (.int .i64 z)
theorem TT.far {gg b o : Nat} {g0 g1 : Value} {z : Int} {wx wy : World} (h : TT gg b o g0 g1 z wx) (h2 : wy.heap[gg]? = wx.heap[gg]?) (h3 : wy.heap[b]? = wx.heap[b]?) : TT gg b o g0 g1 z wy :=
 ⟨(World.cell?_of_block (a:=⟨gg,0,none⟩) h2).trans h.1,(World.cell?_of_block (a:=⟨gg,1,none⟩) h2).trans h.2.1,(World.cell?_of_block (a:=⟨b,o,none⟩) h3).trans h.2.2⟩
theorem TT.on {gg b o : Nat} {g0 g1 : Value} {z : Int} {wx wy : World} (h : TT gg b o g0 g1 z wx) (hb : Below wx.heap.size wx wy) : TT gg b o g0 g1 z wy :=
 h.far (hb.block _ (cell_lt h.1)) (hb.block _ (cell_lt h.2.2))
theorem same_new {ns : List Nd} {pt lo : List Int} {j : Nat} (hj : j < lo.length) : sameA ((lo.map (rnewNode ns pt lo)).getD j default) (ns.getD (lo.getD j 0).toNat default):=by
 rw [getD_map_nd hj];exact ⟨rfl,rfl,rfl⟩
theorem rmetS_rng {ns : List Nd} {pt lo : List Int} (hp : Pos pt) (hl : lo.length <= 2500) {n : Nat} (hn : n < pt.length) : -1 <= rmetS ns pt lo n /\ rmetS ns pt lo n <= 2500:=by
 have hm : pt.getD n 0∈pt:=by rw [List.getD_eq_getElem?_getD,List.getElem?_eq_getElem hn];exact List.getElem_mem hn
 unfold rmetS
 split
 ·rcases hp _ hm with e | e <;> omega
 ·split
  ·rename_i j hj
   have:=findA_lt hj
   omega
  ·omega
theorem rmetL_i64 {ns : List Nd} {pt lo : List Int} (hp : Pos pt) (hl : lo.length <= 2500) (l : List Int) (hr : ∀ y∈l,y.toNat < pt.length) : ∀ x∈rmetL ns pt lo l,I64 x:=fun x hx=>by
 obtain ⟨y,hy,rfl⟩:=List.mem_map.1 hx
 have:=rmetS_rng (ns:=ns) hp hl (hr y hy)
 unfold I64;omega
theorem fsts_set {ns : List Nd} {pt lo : List Int} {m : Nat} {ls : List (Nd × (Option Addr × Nat × Nat))} {k : List Int} {x : Option Addr × Nat × Nat} (h : ls.map Prod.fst = (lo.take m).map (rnewNode ns pt lo) ++ (lo.drop m).map (bareN ns)) (hl : ls.length = lo.length) (hm : m < lo.length) (hk : k = rmetL ns pt lo (ns.getD (lo.getD m 0).toNat default).kids) :
  (ls.set m ({ (ls.getD m (default,none,0,0)).1 with kids:=k },x)).map Prod.fst = (lo.take (m + 1)).map (rnewNode ns pt lo) ++ (lo.drop (m + 1)).map (bareN ns):=by
 have eL : lo.getD m 0 = lo[m]:=by rw [List.getD_eq_getElem?_getD,List.getElem?_eq_getElem hm];rfl
 have h2 : (ls.map Prod.fst).getD m default = (ls.getD m (default,none,0,0)).1:=by
  rw [List.getD_eq_getElem?_getD,List.getElem?_map,List.getD_eq_getElem?_getD,List.getElem?_eq_getElem (by omega : m < ls.length)];rfl
 have hlen : ((lo.take m).map (rnewNode ns pt lo)).length = m:=by simp;omega
 have h3 : (ls.getD m (default,none,0,0)).1 = bareN ns (lo[m]):=by
  rw [<- h2,h,List.getD_eq_getElem?_getD,List.getElem?_append_right (by omega),hlen,Nat.sub_self,List.drop_eq_getElem_cons hm];rfl
 rw [List.map_set,h,h3,List.set_append_right _ _ (by omega),hlen,Nat.sub_self,List.drop_eq_getElem_cons hm,List.map_cons,List.set_cons_zero,List.take_succ_eq_append_getElem hm,List.map_append,List.append_assoc]
 congr 1
 simp only [List.map_cons,List.map_nil,List.singleton_append]
 congr 1
 rw [hk,eL]
 exact nd_ext rfl rfl rfl rfl
theorem same_set {ns : List Nd} {pt lo : List Int} {m : Nat} {ls : List (Nd × (Option Addr × Nat × Nat))} {k : List Int} {x : Option Addr × Nat × Nat} (h : ls.map Prod.fst = (lo.take m).map (rnewNode ns pt lo) ++ (lo.drop m).map (bareN ns)) (hl : ls.length = lo.length) {j : Nat} (hj : j < lo.length) :
  sameA (((ls.set m ({ (ls.getD m (default,none,0,0)).1 with kids:=k },x)).map Prod.fst).getD j default) (ns.getD (lo.getD j 0).toNat default):=by
 have eL : ∀ j (hj : j < lo.length),lo.getD j 0 = lo[j]:=fun j hj=>by rw [List.getD_eq_getElem?_getD,List.getElem?_eq_getElem hj];rfl
 have hg : ∀ j,j < lo.length -> sameA ((ls.map Prod.fst).getD j default) (ns.getD (lo.getD j 0).toNat default):=fun j hj=>by
  rw [h]
  by_cases hjm : j < m
  ·rw [List.getD_eq_getElem?_getD, List.getElem?_append_left (by simp; omega), List.getElem?_map, List.getElem?_take, if_pos hjm, List.getElem?_eq_getElem hj, eL j hj]
   exact ⟨rfl,rfl,rfl⟩
  ·rw [List.getD_eq_getElem?_getD, List.getElem?_append_right (by simp; omega), List.getElem?_map, List.getElem?_drop]
   have e : m + (j - (List.map (rnewNode ns pt lo) (List.take m lo)).length) = j:=by simp;omega
   rw [e,List.getElem?_eq_getElem hj,eL j hj]
   exact ⟨rfl,rfl,rfl⟩
 have hfst : ∀ j,j < ls.length -> (ls.map Prod.fst).getD j default = (ls.getD j (default,none,0,0)).1:=fun j hj=>by
  rw [List.getD_eq_getElem?_getD,List.getElem?_map,List.getD_eq_getElem?_getD,List.getElem?_eq_getElem hj];rfl
 by_cases e : m = j
 ·subst e
  have h1:=hg m hj
  rw [hfst m (by omega)] at h1
  rw [List.getD_eq_getElem?_getD,List.getElem?_map,List.getElem?_set_self (by omega)]
  exact h1
 ·have h1 := hg j hj
  rw [List.getD_eq_getElem?_getD,List.getElem?_map,List.getElem?_set_ne e,<- List.getElem?_map,<- List.getD_eq_getElem?_getD]
  exact h1
structure P2 (w Wb Wp : World) (vN : Value) (ns : List Nd) (pt lo : List Int) (m : Nat) (ls : List (Nd × (Option Addr × Nat × Nat))) (wz : World) : Prop where
 nodes : NOwn Wb.heap.size wz vN ls
 len : ls.length = lo.length
 fsts : ls.map Prod.fst = (lo.take m).map (rnewNode ns pt lo) ++ (lo.drop m).map (bareN ns)
 nils : ∀ j,m <= j -> j < ls.length -> (ls.getD j (default,none,0,0)).2 = (none,0,0)
 keep : ∀ b,b < Wp.heap.size -> vN.ownBlock ≠ some b -> wz.heap[b]? = Wp.heap[b]?
 size : Wp.heap.size <= wz.heap.size
 bel : Below w.heap.size w wz
set_option maxHeartbeats 8000000 in
theorem rcanon_own (an ar : Option Addr) (nn cn nr cr : Nat) (ns : List Nd) (rs : List Int) (w : World) (G : GIs w an nn cn ar nr cr ns rs) (hs : smallG ns) (hk : ∀ d ∈ ns, d.kids.length <= 100) (hn : nn <= 2500) (hnr : nr <= 2500) :
  Calls Tryz.prog 14 #[GVal an nn cn ar nr cr] w fun e w'=>∃ a1 n1 c1 a2 n2 c2,e = .returned (GVal a1 n1 c1 a2 n2 c2) /\ GIs w' a1 n1 c1 a2 n2 c2 (canonN ns rs).1 (canonN ns rs).2 /\ GKeep w.heap.size w' a1 n1 c1 a2 n2 c2 (canonN ns rs).1 (canonN ns rs).2 /\ Below w.heap.size w w':=by
 have HG:=hid G
 have HS:=hid hs
 have HK:=hid hk
 have hn1:=G.nodes.fits
 have hn2:=G.nodes.most
 have hr1:=G.roots.fits
 have hr2:=G.roots.most
 have hlen:=G.nodes.len
 have hrl:=G.roots.len
 unfold maxLen at hn2 hr2
 unfold GVal
 clear G hs hk
 go_enter Tryz.func14,Tryz.ntmps14
 go_wp2_with fail
 have bA : Below w.heap.size w (allocs w [(.cells #[.slice an nn cn,.slice ar nr cr] 34),(.cells #[.slice none 0 0,.slice none 0 0] 34),(.cells #[.slice none 0 0,.slice none 0 0] 34)]):=allocs_below _ _
 have x0 : (allocs w [(.cells #[.slice an nn cn,.slice ar nr cr] 34),(.cells #[.slice none 0 0,.slice none 0 0] 34),(.cells #[.slice none 0 0,.slice none 0 0] 34)]).heap[w.heap.size]? = some (.cells #[.slice an nn cn,.slice ar nr cr] 34 (0,0)):=allocs_get (i:=0) rfl
 have x2 : (allocs w [(.cells #[.slice an nn cn,.slice ar nr cr] 34),(.cells #[.slice none 0 0,.slice none 0 0] 34),(.cells #[.slice none 0 0,.slice none 0 0] 34)]).heap[w.heap.size + 1]? = some (.cells #[.slice none 0 0,.slice none 0 0] 34 (0,0)):=allocs_get (i:=1) rfl
 have x3 : (allocs w [(.cells #[.slice an nn cn,.slice ar nr cr] 34),(.cells #[.slice none 0 0,.slice none 0 0] 34),(.cells #[.slice none 0 0,.slice none 0 0] 34)]).heap[w.heap.size + 1 + 1]? = some (.cells #[.slice none 0 0,.slice none 0 0] 34 (0,0)):=allocs_get (i:=2) rfl
 have hsz : (allocs w [(.cells #[.slice an nn cn,.slice ar nr cr] 34),(.cells #[.slice none 0 0,.slice none 0 0] 34),(.cells #[.slice none 0 0,.slice none 0 0] 34)]).heap.size = w.heap.size + 1 + 1 + 1:=by simp [allocs]
 have hWW : allocs w [(.cells #[.slice an nn cn,.slice ar nr cr] 34),(.cells #[.slice none 0 0,.slice none 0 0] 34),(.cells #[.slice none 0 0,.slice none 0 0] 34)] = ((w.alloc (.cells #[.slice an nn cn,.slice ar nr cr] 34)).alloc (.cells #[.slice none 0 0,.slice none 0 0] 34)).alloc (.cells #[.slice none 0 0,.slice none 0 0] 34):=rfl
 rw [<- hWW]
 clear hWW
 generalize allocs w [(.cells #[.slice an nn cn,.slice ar nr cr] 34),(.cells #[.slice none 0 0,.slice none 0 0] 34),(.cells #[.slice none 0 0,.slice none 0 0] 34)] = W1 at *
 obtain ⟨go,hgo⟩ : ∃ g,g = w.heap.size + 1 + 1:=⟨_,rfl⟩
 obtain ⟨gr,hgr⟩ : ∃ g,g = w.heap.size + 1:=⟨_,rfl⟩
 obtain ⟨gg,hgg⟩ : ∃ g,g = w.heap.size:=⟨_,rfl⟩
 rw [<- hgo] at x3
 rw [<- hgr] at x2
 rw [<- hgg] at x0
 rw [<- hgo,<- hgr,<- hgg]
 have hne : Hid (gg ≠ go /\ gr ≠ go /\ gg < W1.heap.size /\ gr < W1.heap.size /\ go < W1.heap.size /\ w.heap.size <= gr /\ w.heap.size <= go):=by refine ⟨?_,?_,?_,?_,?_,?_,?_⟩ <;> omega
 refine (rgood_g an ar nn cn nr cr ns rs W1 (HG.out.below bA) HS.out (by omega)).mono ?_
 rintro e W2 ⟨rfl,b2⟩
 have HB2:=hid (Bt bA b2)
 have X0:=hid ((b2.block gg hne.out.2.2.1).trans x0)
 have X2:=hid ((b2.block gr hne.out.2.2.2.1).trans x2)
 have X3:=hid ((b2.block go hne.out.2.2.2.2.1).trans x3)
 have hne2 : Hid (gg < W2.heap.size /\ gr < W2.heap.size /\ go < W2.heap.size):=⟨Nat.lt_of_lt_of_le hne.out.2.2.1 b2.size,Nat.lt_of_lt_of_le hne.out.2.2.2.1 b2.size,Nat.lt_of_lt_of_le hne.out.2.2.2.2.1 b2.size⟩
 have c0 : W2.cell? ⟨gg,0,none⟩ = some (.slice an nn cn):=blk_cell X0.out 0
 have c1 : W2.cell? ⟨gg,1,none⟩ = some (.slice ar nr cr):=blk_cell X0.out 1
 have d0 : W2.cell? ⟨gr,0,none⟩ = some (.slice none 0 0):=blk_cell X2.out 0
 have d1 : W2.cell? ⟨gr,1,none⟩ = some (.slice none 0 0):=blk_cell X2.out 1
 have e0 : W2.cell? ⟨go,0,none⟩ = some (.slice none 0 0):=blk_cell X3.out 0
 have e1 : W2.cell? ⟨go,1,none⟩ = some (.slice none 0 0):=blk_cell X3.out 1
 have f0 : W2.frozen? ⟨gr,0,none⟩ = false:=blk_free X2.out 0
 have f1 : W2.frozen? ⟨gr,1,none⟩ = false:=blk_free X2.out 1
 clear bA x0 x2 x3 hsz hgo hgr hgg b2
 obtain ⟨gd,hgd⟩ : ∃ gd,gd = goodG ns rs:=⟨_,rfl⟩
 rw [<- hgd]
 have HGD:=hid hgd
 clear hgd
 cases gd
 ·go_wp2_with fail
  have hst:=store2 (v1:=.slice none 0 0) (v2:=.slice none 0 0) X2.out
  have t0:=blk_cell hst 0
  have t1:=blk_cell hst 1
  (try simp only [Exit.inBlock,Exit.then]);refine bodyPost_ret (by simp [results,Tryz.results14,go_sem,t0,t1];rfl) rfl ?_
  have hc : canonN ns rs = ([],[]):=by unfold canonN canonG;rw [if_neg (by rw [<- HGD.out];decide)]
  rw [hc]
  exact ⟨_,_,_,_,_,_,rfl,⟨NRow.nil _ _,IRow.nil _ _⟩,fun _ _ _=>⟨NRow.nil _ _,IRow.nil _ _⟩,store2_below HB2.out hne.out.2.2.2.2.2.1⟩
 have hmk:=fun wx=>run_make_row' (P:=Tryz.prog) 32 3 (.int .i64 0) 8 Tryz.underlying32 info_int rfl .i64 .i64 nn (by omega) (by omega) wx
 go_wp2_with fail
 have bM:=Ba W2 (.cells (madeCells #[.int .i64 0] nn) 3)
 have hBM : Blk (W2.alloc (.cells (madeCells #[.int .i64 0] nn) 3)) W2.heap.size (List.replicate nn 0):=by unfold Blk;rw [<- made_cz];exact blk_new _ _ _
 obtain ⟨gat,hgat⟩ : ∃ g,g = W2.heap.size:=⟨_,rfl⟩
 have hgl : Hid (W2.heap.size <= gat):=by unfold Hid;omega
 rw [<- hgat] at hBM
 rw [<- hgat]
 clear hgat hmk c0 c1 d0 d1 e0 e1 f0 f1
 generalize W2.alloc (.cells (madeCells #[.int .i64 0] nn) 3) = W3 at *
 have HBM:=hid bM
 have HBK:=hid hBM
 clear bM hBM
 go_loopw [8] (fun i wr=>∃ m : Nat,m <= nn /\ i = .int .i64 m /\ Hid (Blk wr gat (List.replicate m (-1) ++ List.replicate (nn - m) 0) /\ Below W2.heap.size W2 wr)) (fun i _=>nn - (intOf i).toNat)
 case atStart=>exact ⟨0,Nat.zero_le _,rfl,by simpa using HBK.out,HBM.out⟩
 case round =>
  obtain ⟨m,hmn,rfl,hI⟩:=hrel
  obtain ⟨hb1,hb2⟩:=hI.out
  by_cases hlt : m < nn
  ·have hc : wr.cell? ⟨gat, m, none⟩ = some (.int .i64 ((List.replicate m (-1) ++ List.replicate (nn - m) 0).getD m 0)) := hb1.cell (by simp; omega)
   have hf:=hb1.free m
   have HN : Hid (Blk (wr.setCell ⟨gat,m,none⟩ (.int .i64 (-1))) gat (List.replicate (m + 1) (-1) ++ List.replicate (nn - (m + 1)) 0)):=by
    have:=hb1.set m (-1)
    have e : (List.replicate m (-1 : Int) ++ List.replicate (nn - m) 0).set m (-1) = List.replicate (m + 1) (-1) ++ List.replicate (nn - (m + 1)) 0:=by
     rw [List.set_append_right _ _ (by simp)]
     obtain ⟨k,hk⟩ : ∃ k,nn - m = k + 1:=⟨nn - m - 1,by omega⟩
     have hk2 : nn - (m + 1) = k:=by omega
     rw [hk,hk2,List.replicate_succ' (n:=m),List.append_assoc]
     simp [List.replicate_succ]
    unfold Hid;rw [<- e];exact this
   have HBB:=hid (hb2.setCell (p:=⟨gat,m,none⟩) hgl.out (.int .i64 (-1)))
   clear hb1 hb2 hI
   go_wp2
   exact ⟨⟨m + 1,by omega,by go_num,HN.out,HBB.out⟩,by simp [intOf] <;> omega⟩
  ·obtain rfl : nn = m := by omega
   simp only [Nat.sub_self,List.replicate_zero,List.append_nil] at hb1
   have HAT:=hid hb1
   have HBW:=hid hb2
   have y0:=(hb2.block gg hne2.out.1).trans X0.out
   have y3:=(hb2.block go hne2.out.2.2).trans X3.out
   have c1 : wr.cell? ⟨gg,1,none⟩ = some (.slice ar nr cr):=blk_cell y0 1
   have RC0 : Hid (RC w W2 go gat (.slice none 0 0) (.slice none 0 0) (.slice none 0 0) (.slice none 0 0) (List.replicate nn (-1)) [] [] [] [] wr):=by
    have ap : Apart none none:=fun _ h=>by cases h
    have ap2 : Apart none (some gat):=fun _ h=>by cases h
    exact ⟨y3,hne2.out.2.2,hne.out.2.2.2.2.2.2,fun b h1 h2=>hb2.block b h1,HB2.out.trans (hb2.mono HB2.out.size),HB2.out.size,hb2.size,hb1,hgl.out,World.ownsRow_nil _ _ _ _,World.ownsRow_nil _ _ _ _,World.ownsRow_nil _ _ _ _,World.ownsRow_nil _ _ _ _,fun _ h=>(by cases h),ap,ap,ap,ap,ap,ap,ap2,ap2,ap2,ap2⟩
   clear hb1 hb2 hI y0 y3 hmn hlt
   go_wp2_with fail
   have HCAN : Hid (rcanonG ns rs 300001 = canonN ns rs):=rcanon_eq ⟨HGD.out.symm,HK.out,by omega,by omega⟩ (by omega)
   have hkp:=(goodG_parts HGD.out.symm).1
   have hrp:=places_rng (goodG_parts HGD.out.symm).2
   rw [hlen] at hrp
   have HKP:=hid hkp
   have HRP:=hid hrp
   have HF0 : Hid (Fv ns nn rs (List.replicate nn (-1)) [] 300001):=⟨by simp,hlen,by rw [<- hlen];exact hkp,hrp,by have:=um_le (ns:=ns) (pl:=List.replicate nn (-1)) HK.out;omega,by simp⟩
   clear hkp hrp
   go_loopw [5,9] (fun v i wr=>∃ k : Nat,k <= nr /\ i = .int .i64 ((k : Int) - 1) /\ Hid (RC w W2 go gat (.slice none 0 0) (.slice none 0 0) v (.slice none 0 0) (List.replicate nn (-1)) [] [] (rs.drop k).reverse [] wr)) (fun _ i _=>(intOf i + 1).toNat)
   case atStart=>exact ⟨nr,Nat.le_refl _,by simp,by rw [List.drop_of_length_le (by omega)];exact RC0.out⟩
   case round =>
    obtain ⟨k,hkn,rfl,hR⟩:=hrel
    have cg1 : wr.cell? ⟨gg,1,none⟩ = some (.slice ar nr cr):=blk_cell ((hR.out.keep gg hne2.out.1 hne.out.1).trans X0.out) 1
    cases k with
    | succ k =>
     have ek : (((k + 1 : Nat) : Int) - 1) = (k : Int):=by omega
     rw [ek]
     obtain ⟨b,o,rfl,hlb,hcc⟩:=HG.out.roots.some (by omega)
     have hml : k < rs.length:=by omega
     obtain ⟨z,hz⟩ : ∃ z,z = rs.getD k 0:=⟨_,rfl⟩
     have hc1 : wr.cell? ⟨b,o + k,none⟩ = some (.int .i64 z):=by rw [hz];exact (hR.out.bel.cell (p:=⟨b,o + k,none⟩) hlb).trans (hcc k (by omega))
     have hst : Hid ((rs.drop k).reverse = (rs.drop (k + 1)).reverse ++ [z]):=by unfold Hid;rw [hz];exact rev_drop hml
     have HRA:=hid (hR.out.on_ (Ba wr (.cells #[.int .i64 z] 3)))
     obtain ⟨LL,hLL⟩ : ∃ L,L = (rs.drop (k + 1)).reverse.length:=⟨_,rfl⟩
     have hl1 : LL <= 1000000:=by rw [hLL];simp;omega
     have HTD:=hid HRA.out.todo
     rw [<- hLL] at HTD
     clear hLL
     have hsz : Hid (W2.heap.size <= (wr.alloc (.cells #[.int .i64 z] 3)).heap.size):=HRA.out.size
     clear hcc hz
     go_wp2_with (at_builtin;refine appz rfl _ _ 32 rfl W2.heap.size 3 Tryz.underlying32 info_int _ _ (rs.drop (k + 1)).reverse rfl HTD.out ⟨wr.heap.size,0,none⟩ 1 z rfl (cell_new wr (.int .i64 z) 3) hl1 hsz.out ?_;intro g2 cap2 w4 hown hgrow hloc hglt)
     have hP:=HRA.out.pushT hown hgrow hloc
     rw [<- hst.out] at hP
     exact ⟨⟨k,by omega,by go_num,hP⟩,by simp [intOf] <;> omega⟩
    | zero =>
     have ek : (((0 : Nat) : Int) - 1) = -1:=by omega
     rw [ek]
     have hR2:=hR.out
     rw [List.drop_zero] at hR2
     have HR2:=hid hR2
     clear hR hR2 cg1
     go_wp2_with fail
     go_loopg [4,5,6] 300002 (fun gk vo vt va wr=>∃ (f' : Nat),f' < gk /\ f' <= 300001 /\ Hid (∃ (vN : Value) (pt lo st : List Int),RC w W2 go gat vN vo vt va pt lo (atomsL ns lo 0) st.reverse (lo.map (bareN ns)) wr /\ Fv ns nn st pt lo f' /\ Pos pt /\ rfollowS ns f' st pt lo = rfollowS ns 300001 rs (start nn).1 (start nn).2))
     case atStart=>exact ⟨300001,by omega,by omega,.slice none 0 0,List.replicate nn (-1),[],rs,HR2.out,HF0.out,Pos.start_ nn,rfl⟩
     case round =>
      obtain ⟨f',hfg,hfb,hI⟩:=hrel
      obtain ⟨gk',rfl⟩ : ∃ k,gk = k + 1:=⟨gk - 1,by omega⟩
      obtain ⟨vN,pt,lo,st,hC,hF,hPos,hfol⟩:=hI.out
      obtain ⟨ao,co,rfl,ho1,ho2,ho3⟩:=own_form hC.old
      obtain ⟨at_,ct,rfl,ht1,ht2,ht3⟩:=own_form hC.todo
      obtain ⟨aa,ca,rfl,ha1,ha2,ha3⟩:=own_form hC.atoms
      obtain ⟨aN,cN,rfl,hNR⟩:=hC.nrow
      simp only [List.length_map] at hC hNR
      have hlo : lo.length <= nn:=by have:=hF.cnt;omega
      cases st with
      | nil =>
       have hfol2 : rfollowS ns 300001 rs (start nn).1 (start nn).2 = (pt,lo):=by rw [<- hfol];cases f' <;> rfl
       have hFN : Fine ns rs 300001:=⟨HGD.out.symm,HK.out,by omega,by omega⟩
       have hlr : ∀ z∈lo,0 <= z /\ z < (nn : Int):=by
        have:=rlo_rng hFN (by omega)
        rw [hlen,hfol2] at this;exact this
       have HFIN : Hid (canonN ns rs = (lo.map (rnewNode ns pt lo),rmetL ns pt lo rs)):=by
        unfold Hid;rw [<- HCAN.out];unfold rcanonG;rw [if_pos HGD.out.symm,hlen,hfol2]
       have HLR:=hid hlr
       have HC:=hid hC
       have HPOS:=hid hPos
       have HPL : Hid (pt.length = nn):=hF.plen
       have HNN0 : Hid (NOwn W2.heap.size wr (.slice aN lo.length cN) (bares (lo.map (bareN ns)))):=by
        refine ⟨by rw [bares_length];exact hC.nodes,fun x hx=>?_,fun x hx=>?_⟩
        ·obtain ⟨d, hd, rfl⟩ := List.mem_map.1 hx
         exact ⟨by rw [(hC.nok d hd).2];exact IRow.nil _ _,fun ad had=>by cases had⟩
        ·obtain ⟨d, hd, rfl⟩ := List.mem_map.1 hx
         exact (hC.nok d hd).1
       clear hfol2 hFN hlr hC hPos hF hfol hI hNR ht3 ho3 ha3
       go_wp2_with fail
       obtain ⟨Wp,hWp⟩ : ∃ x,x = wr:=⟨_,rfl⟩
       subst hWp
       go_loopw [13] (fun i wz=>∃ m : Nat,m <= lo.length /\ i = .int .i64 m /\ Hid (∃ ls,P2 w W2 Wp (.slice aN lo.length cN) ns pt lo m ls wz)) (fun i _=>lo.length - (intOf i).toNat)
       case atStart =>
        refine ⟨0,Nat.zero_le _,rfl,bares (lo.map (bareN ns)),HNN0.out,by rw [bares_length,List.length_map],by rw [bares_fst];simp,fun j _ hj=>?_,fun _ _ _=>rfl,Nat.le_refl _,HC.out.bel⟩
        have hj2 : j < (lo.map (bareN ns)).length:=by rw [bares_length] at hj;exact hj
        unfold bares
        rw [List.getD_eq_getElem?_getD,List.getElem?_map,List.getElem?_eq_getElem hj2];rfl
       case round =>
        obtain ⟨m,hmn,rfl,hI⟩:=hrel
        obtain ⟨ls,hP⟩:=hI.out
        have HP:=hid hP
        clear hP hI
        by_cases hlt : m < lo.length
        ·obtain ⟨gN, rfl⟩ : ∃ gN, aN = some ⟨gN, 0, none⟩ := by
          obtain ⟨a',c',e,_,_,h3⟩:=own_form HC.out.nodes
          rw [List.length_map] at e;cases e;exact h3 (by rw [List.length_map];omega)
         have hgNb : Hid (W2.heap.size <= gN /\ gN < Wp.heap.size):=HC.out.nodes.lt gN rfl
         have hkp : Hid (∀ b,b < Wp.heap.size -> b ≠ gN -> wr.heap[b]? = Wp.heap[b]?):=fun b h1 h2=>HP.out.keep b h1 (fun e=>h2 (Option.some.inj e).symm)
         have hggW : Hid (gg < Wp.heap.size /\ gg ≠ gN /\ go < Wp.heap.size /\ go ≠ gN):=by have h1:=hgNb.out;have h2:=hne2.out;have h3:=HC.out.size;exact ⟨by omega,by omega,by omega,by omega⟩
         have hgg:=(hkp.out gg hggW.out.1 hggW.out.2.1).trans ((HC.out.keep gg hne2.out.1 hne.out.1).trans X0.out)
         have hgo:=(hkp.out go hggW.out.2.2.1 hggW.out.2.2.2).trans HC.out.out
         have c0 : wr.cell? ⟨gg,0,none⟩ = some (.slice an nn cn):=blk_cell hgg 0
         obtain ⟨on,hon⟩ : ∃ on : Nat,lo.getD m 0 = (on : Int):=by
          have:=HLR.out (lo.getD m 0) (by rw [List.getD_eq_getElem?_getD,List.getElem?_eq_getElem hlt];exact List.getElem_mem hlt)
          exact Int.eq_ofNat_of_zero_le this.1
         have honn : on < nn:=by
          have:=HLR.out (lo.getD m 0) (by rw [List.getD_eq_getElem?_getD,List.getElem?_eq_getElem hlt];exact List.getElem_mem hlt)
          rw [hon] at this;omega
         obtain ⟨gO,rfl⟩ : ∃ g,ao = some ⟨g,0,none⟩:=by
          obtain ⟨a',c',e,_,_,h3⟩:=own_form HC.out.old
          cases e;exact h3 (by omega)
         have hold : wr.cell? ⟨gO,m,none⟩ = some (.int .i64 (on : Int)):=by
          have h1:=owns_cell HC.out.old (i:=m) hlt
          rw [hon] at h1
          exact (World.cell?_of_block (a:=⟨gO,m,none⟩) (hkp.out gO (HC.out.old.lt gO rfl).2 (fun e=>HC.out.on gO rfl (by rw [e];rfl)))).trans h1
         obtain ⟨b,o,rfl,hlb,hcc⟩:=HG.out.nodes.some (by omega)
         have hnd:=hcc on honn
         have hkl:=HK.out _ (getD_mem_nd (by omega : on < ns.length))
         have hkr:=places_rng ((goodG_parts HGD.out.symm).1 _ (getD_mem_nd (by omega : on < ns.length)))
         rw [hlen] at hkr
         obtain ⟨dl,hdl⟩ : ∃ dl,dl = (ns.getD on default).kids:=⟨_,rfl⟩
         rw [<- hdl] at hkl hkr
         obtain ⟨j1,j2,j3,ak,nk,ck,j4,j5⟩:=hnd
         rw [<- hdl] at j5
         replace j4:=(HP.out.bel.cell (p:=⟨b,o + on * 4 + 3,none⟩) hlb).trans j4
         have J5:=hid j5
         have HKR:=hid hkr
         have HDL:=hid hdl
         have HON:=hid hon
         have hnk:=j5.fits
         have hnk2:=j5.most
         have hnk3:=j5.len
         unfold maxLen at hnk2
         clear hcc j1 j2 j3 j5 hkr hdl hon hgg hgo
         go_wp2_with fail
         go_quiet (fail)
         clear c0 hold j4
         have HBQ:=hid (Bd wr nq)
         have HP2 : Hid (P2 w W2 Wp (.slice (some ⟨gN,0,none⟩) lo.length cN) ns pt lo m ls (wr.drewN nq)):=⟨HP.out.nodes.below HBQ.out,HP.out.len,HP.out.fsts,HP.out.nils,fun b h1 h2=>(HBQ.out.block b (Nat.lt_of_lt_of_le h1 HP.out.size)).trans (HP.out.keep b h1 h2),Nat.le_trans HP.out.size HBQ.out.size,HP.out.bel.trans (HBQ.out.mono HP.out.bel.size)⟩
         clear HP hkp HBQ
         generalize wr.drewN nq = Wi at *
         have hkp : Hid (∀ b,b < Wp.heap.size -> b ≠ gN -> Wi.heap[b]? = Wp.heap[b]?):=fun b h1 h2=>HP2.out.keep b h1 (fun e=>h2 (Option.some.inj e).symm)
         have hml : m < ls.length:=by rw [HP2.out.len];exact hlt
         obtain ⟨cur,hcur,hc3⟩ : ∃ cur,Wi.heap[gN]? = some (.cells cur 54 (0,0)) /\ cur[m * 4 + 3]? = some (.slice none 0 0):=by
          rcases HP2.out.nodes.own.2 with ⟨h0,_⟩ | ⟨g',cap',cur',h1,h2,h3,h4,h5,h6,h7⟩
          ·cases h0
          ·rw [HP2.out.len] at h1
           cases h1
           refine ⟨cur',h3,?_⟩
           have h8:=ncs_get (l:=ls) (i:=m) (j:=3) hml (by omega)
           have h9 : (nc (ls.getD m (default,none,0,0)))[3]? = some (.slice none 0 0):=by rw [nc,HP2.out.nils m (Nat.le_refl _) hml];rfl
           rw [h9,<- h7,List.getElem?_take,if_pos (by rw [HP2.out.len] at hml ⊢;omega),Array.getElem?_toList] at h8
           exact h8
         have HCUR:=hid hcur
         have hWb : Hid (w.heap.size <= Wi.heap.size /\ W2.heap.size <= Wi.heap.size /\ gN < Wi.heap.size /\ w.heap.size <= gN):=⟨HP2.out.bel.size,Nat.le_trans HC.out.size HP2.out.size,Nat.lt_of_lt_of_le hgNb.out.2 HP2.out.size,Nat.le_trans HB2.out.size hgNb.out.1⟩
         have HK0 : Hid (KI w Wi gN cur m (.slice none 0 0) [] Wi):=⟨by rw [set_self_arr hc3];exact hcur,hWb.out.2.2.1,World.ownsRow_nil _ _ _ _,fun _ _ _=>rfl,Nat.le_refl _,HP2.out.bel,hWb.out.2.2.2,hWb.out.1⟩
         have hcsz : Hid (m * 4 + 3 < cur.size):=(Array.getElem?_eq_some_iff.1 hc3).1
         clear hcur hc3
         go_wp2_with fail
         go_loopw [15] (fun i wz=>∃ q : Nat,q <= nk /\ i = .int .i64 q /\ Hid (∃ v,KI w Wi gN cur m v (rmetL ns pt lo (dl.take q)) wz)) (fun i _=>nk - (intOf i).toNat)
         case atStart=>exact ⟨0,Nat.zero_le _,rfl,_,HK0.out⟩
         case round =>
          obtain ⟨q,hqn,rfl,hI⟩:=hrel
          obtain ⟨v,hKI⟩:=hI.out
          have HKI:=hid hKI
          clear hI
          by_cases hq : q < nk
          ·obtain ⟨bk, ok, rfl, hlk, hck⟩ := J5.out.some (by omega)
           have hql : q < dl.length:=by omega
           obtain ⟨z,hz⟩ : ∃ z,z = dl.getD q 0:=⟨_,rfl⟩
           have hzr:=HKR.out z (by rw [hz,List.getD_eq_getElem?_getD,List.getElem?_eq_getElem hql];exact List.getElem_mem hql)
           obtain ⟨zn,rfl⟩:=Int.eq_ofNat_of_zero_le hzr.1
           have hzn : zn < nn:=by omega
           have hst : Hid (rmetL ns pt lo (dl.take (q + 1)) = rmetL ns pt lo (dl.take q) ++ [rmetS ns pt lo zn]):=by unfold Hid rmetL;rw [take_succ_of 0 hql,List.map_append,<- hz];simp
           have hrl2 : ∀ x∈rmetL ns pt lo (dl.take q),I64 x:=rmetL_i64 HPOS.out (by omega) _ (fun y hy=>by rw [HPL.out];have:=HKR.out y (List.mem_of_mem_take hy);omega)
           obtain ⟨aq,cq,rfl,hIq⟩:=irow_of hKI.row hrl2
           have hlq : (rmetL ns pt lo (dl.take q)).length = q:=by unfold rmetL;rw [List.length_map,List.length_take];omega
           have hbkW : Hid (bk < Wi.heap.size /\ bk ≠ gN /\ gg < Wi.heap.size /\ go < Wi.heap.size /\ gg ≠ gN /\ go ≠ gN):=by have h1:=hWb.out;have h2:=hne2.out;have h3:=hgNb.out;exact ⟨by omega,by omega,by omega,by omega,by omega,by omega⟩
           have HS0 : Hid (SS go gg bk (ok + q) (.slice (some ⟨gN,0,none⟩) lo.length cN) (.slice none 0 0) (.slice (some ⟨b,o,none⟩) nn cn) (.slice ar nr cr) (zn : Int) Wi):=by
            have hgg:=(hkp.out gg hggW.out.1 hggW.out.2.1).trans ((HC.out.keep gg hne2.out.1 hne.out.1).trans X0.out)
            have hgo:=(hkp.out go hggW.out.2.2.1 hggW.out.2.2.2).trans HC.out.out
            exact ⟨blk_cell hgo 0,blk_cell hgo 1,blk_cell hgg 0,blk_cell hgg 1,by rw [hz];exact (HP2.out.bel.cell (p:=⟨bk,ok + q,none⟩) hlk).trans (hck q hq)⟩
           have HSX : Hid (∀ wx,(∀ c,c < Wi.heap.size -> c ≠ gN -> wx.heap[c]? = Wi.heap[c]?) -> SS go gg bk (ok + q) (.slice (some ⟨gN,0,none⟩) lo.length cN) (.slice none 0 0) (.slice (some ⟨b,o,none⟩) nn cn) (.slice ar nr cr) (zn : Int) wx):=fun wx h=>HS0.out.far (h go hbkW.out.2.2.2.1 hbkW.out.2.2.2.2.2) (h gg hbkW.out.2.2.1 hbkW.out.2.2.2.2.1) (h bk hbkW.out.1 hbkW.out.2.1)
           have HLQ:=hid hlq
           have HMT : Hid (∀ wx,KI w Wi gN cur m (.slice aq (rmetL ns pt lo (dl.take q)).length cq) (rmetL ns pt lo (dl.take q)) wx -> MetIn wx (some ⟨gN,0,none⟩) lo.length cN ((ls.set m ({ (ls.getD m (default,none,0,0)).1 with kids:=rmetL ns pt lo (dl.take q) },aq,(rmetL ns pt lo (dl.take q)).length,cq)).map Prod.fst) (some ⟨gat,0,none⟩) nn pt aa (atomsL ns lo 0).length ca ns lo (some ⟨b,o,none⟩) nn cn):=fun wx hx=>by
            have hN1:=HP2.out.nodes
            rw [<- HP2.out.len] at hN1
            have hN2:=hx.nown HCUR.out hN1 hml hrl2 hWb.out.2.1
            obtain ⟨_,_,hve,hNR⟩:=hN2.row
            rw [List.length_set] at hve hNR
            cases hve
            rw [HP2.out.len] at hNR
            refine ⟨hNR,rfl,fun j hj=>?_,?_,?_,HG.out.nodes.below hx.bel,⟨by omega,by omega⟩⟩
            ·exact same_set HP2.out.fsts HP2.out.len hj
            ·have h1 := blk_irow HC.out.at_ (by rw [HPL.out]; omega) HPOS.out.i64
             rw [HPL.out] at h1
             have hgl:=HC.out.at_.lt
             have hga : gat ≠ gN:=fun e=>HC.out.ng gN rfl (by rw [e])
             exact h1.frame (Nat.le_trans HP2.out.size hx.size) (fun ad had=>by cases had;exact (hx.keep gat (Nat.lt_of_lt_of_le hgl HP2.out.size) hga).trans (hkp.out gat hgl hga))
            ·obtain ⟨a2, c2, e2, hA⟩ := irow_of HC.out.atoms (atoms_i64 ns (by omega))
             cases e2
             exact hA.frame (Nat.le_trans HP2.out.size hx.size) (fun ad had=>by
              have hl2:=(HC.out.atoms.lt ad.block (by rw [had];rfl)).2
              have hga : ad.block ≠ gN:=fun e=>HC.out.an gN (by rw [had];exact congrArg some e) rfl
              exact (hx.keep ad.block (Nat.lt_of_lt_of_le hl2 HP2.out.size) hga).trans (hkp.out ad.block hl2 hga))
           clear hck hz hzr hKI hIq hlq
           go_wp2_with fail
           refine wp_region_held_drew (S:=SS go gg bk (ok + q) (.slice (some ⟨gN,0,none⟩) lo.length cN) (.slice none 0 0) (.slice (some ⟨b,o,none⟩) nn cn) (.slice ar nr cr) (zn : Int)) (by kernel_rfl) (HSX.out _ (fun c h1 h2=>((Bd wr 1).block c (Nat.lt_of_lt_of_le h1 HKI.out.size)).trans (HKI.out.keep c h1 h2))) (fun hHeld=>?_)
           refine htake 0 (some 142) (.pointer (some ⟨go,0,none⟩)) rfl rfl (by kernel_rfl) (by kernel_rfl) (by kernel_rfl) (fun _ _ _ h=>h) (Or.inl ⟨by rfl,fun wx hSw=>?_⟩) (by assumption) ?_
           ·go_simp
           simp only [Act.put,List.setIfInBounds_toArray,List.set_cons_zero,List.set_cons_succ]
           refine htake 1 (some 143) (.slice (some ⟨gN,0,none⟩) lo.length cN) rfl rfl (by kernel_rfl) (by kernel_rfl) (by kernel_rfl) (fun _ _ _ h=>h) (Or.inl ⟨by rfl,fun wx hSw=>?_⟩) (by assumption) ?_
           ·obtain ⟨s0,s1,s2,s3,s4⟩:=hSw;go_simp
           simp only [Act.put,List.setIfInBounds_toArray,List.set_cons_zero,List.set_cons_succ]
           refine htake 2 (some 144) (.int .i64 (m : Int)) rfl rfl (by kernel_rfl) (by kernel_rfl) (by kernel_rfl) (fun _ _ _ h=>h) (Or.inl ⟨by rfl,fun wx hSw=>?_⟩) (by assumption) ?_
           ·go_simp
           simp only [Act.put,List.setIfInBounds_toArray,List.set_cons_zero,List.set_cons_succ]
           refine htake 3 (some 145) (.pointer (some ⟨go,0,none⟩)) rfl rfl (by kernel_rfl) (by kernel_rfl) (by kernel_rfl) (fun _ _ _ h=>h) (Or.inl ⟨by rfl,fun wx hSw=>?_⟩) (by assumption) ?_
           ·go_simp
           simp only [Act.put,List.setIfInBounds_toArray,List.set_cons_zero,List.set_cons_succ]
           refine htake 4 (some 146) (.slice (some ⟨gN,0,none⟩) lo.length cN) rfl rfl (by kernel_rfl) (by kernel_rfl) (by kernel_rfl) (fun _ _ _ h=>h) (Or.inl ⟨by rfl,fun wx hSw=>?_⟩) (by assumption) ?_
           ·obtain ⟨s0,s1,s2,s3,s4⟩:=hSw;go_simp
           simp only [Act.put,List.setIfInBounds_toArray,List.set_cons_zero,List.set_cons_succ]
           refine htake 5 (some 147) (.int .i64 (m : Int)) rfl rfl (by kernel_rfl) (by kernel_rfl) (by kernel_rfl) (fun _ _ _ h=>h) (Or.inl ⟨by rfl,fun wx hSw=>?_⟩) (by assumption) ?_
           ·go_simp
           simp only [Act.put,List.setIfInBounds_toArray,List.set_cons_zero,List.set_cons_succ]
           refine htake 6 (some 148) (.pointer (some ⟨gN,m * 4,none⟩)) rfl rfl (by kernel_rfl) (by kernel_rfl) (by kernel_rfl) (fun _ _ _ h=>h) (Or.inl ⟨by rfl,fun wx hSw=>?_⟩) (by assumption) ?_
           ·go_simp
           simp only [Act.put,List.setIfInBounds_toArray,List.set_cons_zero,List.set_cons_succ]
           refine htake 7 (some 149) (.pointer (some ⟨gN,m * 4 + 3,none⟩)) rfl rfl (by kernel_rfl) (by kernel_rfl) (by kernel_rfl) (fun _ _ _ h=>h) (Or.inl ⟨by rfl,fun wx hSw=>?_⟩) (by assumption) ?_
           ·go_simp
           simp only [Act.put,List.setIfInBounds_toArray,List.set_cons_zero,List.set_cons_succ]
           refine htake 9 (some 151) (.agg #[.slice (some ⟨gN,0,none⟩) lo.length cN,.slice none 0 0]) rfl rfl (by kernel_rfl) (by kernel_rfl) (by kernel_rfl) (fun _ _ _ h=>h) (Or.inl ⟨by rfl,fun wx hSw=>?_⟩) (by assumption) ?_
           ·obtain ⟨s0,s1,s2,s3,s4⟩:=hSw;go_simp
           simp only [Act.put,List.setIfInBounds_toArray,List.set_cons_zero,List.set_cons_succ]
           refine htake 10 (some 152) (.slice (some ⟨gat,0,none⟩) nn nn) rfl rfl (by kernel_rfl) (by kernel_rfl) (by kernel_rfl) (fun _ _ _ h=>h) (Or.inl ⟨by rfl,fun wx hSw=>?_⟩) (by assumption) ?_
           ·go_simp
           simp only [Act.put,List.setIfInBounds_toArray,List.set_cons_zero,List.set_cons_succ]
           refine htake 11 (some 153) (.slice aa (atomsL ns lo 0).length ca) rfl rfl (by kernel_rfl) (by kernel_rfl) (by kernel_rfl) (fun _ _ _ h=>h) (Or.inl ⟨by rfl,fun wx hSw=>?_⟩) (by assumption) ?_
           ·go_simp
           simp only [Act.put,List.setIfInBounds_toArray,List.set_cons_zero,List.set_cons_succ]
           refine htake 12 (some 154) (.agg #[.slice (some ⟨b,o,none⟩) nn cn,.slice ar nr cr]) rfl rfl (by kernel_rfl) (by kernel_rfl) (by kernel_rfl) (fun _ _ _ h=>h) (Or.inl ⟨by rfl,fun wx hSw=>?_⟩) (by assumption) ?_
           ·obtain ⟨s0,s1,s2,s3,s4⟩:=hSw;go_simp
           simp only [Act.put,List.setIfInBounds_toArray,List.set_cons_zero,List.set_cons_succ]
           refine htake 13 (some 155) (.slice (some ⟨bk,ok,none⟩) nk ck) rfl rfl (by kernel_rfl) (by kernel_rfl) (by kernel_rfl) (fun _ _ _ h=>h) (Or.inl ⟨by rfl,fun wx hSw=>?_⟩) (by assumption) ?_
           ·go_simp
           simp only [Act.put,List.setIfInBounds_toArray,List.set_cons_zero,List.set_cons_succ]
           refine htake 14 (some 156) (.int .i64 (q : Int)) rfl rfl (by kernel_rfl) (by kernel_rfl) (by kernel_rfl) (fun _ _ _ h=>h) (Or.inl ⟨by rfl,fun wx hSw=>?_⟩) (by assumption) ?_
           ·go_simp
           simp only [Act.put,List.setIfInBounds_toArray,List.set_cons_zero,List.set_cons_succ]
           refine htake 15 (some 157) (.pointer (some ⟨bk,ok + q,none⟩)) rfl rfl (by kernel_rfl) (by kernel_rfl) (by kernel_rfl) (fun _ _ _ h=>h) (Or.inl ⟨by rfl,fun wx hSw=>?_⟩) (by assumption) ?_
           ·go_simp
           simp only [Act.put,List.setIfInBounds_toArray,List.set_cons_zero,List.set_cons_succ]
           refine htake 16 (some 158) (.int .i64 (zn : Int)) rfl rfl (by kernel_rfl) (by kernel_rfl) (by kernel_rfl) (fun _ _ _ h=>h) (Or.inl ⟨by rfl,fun wx hSw=>?_⟩) (by assumption) ?_
           ·obtain ⟨s0,s1,s2,s3,s4⟩:=hSw;go_simp
           simp only [Act.put,List.setIfInBounds_toArray,List.set_cons_zero,List.set_cons_succ]
           refine wpAnyH_from Lkn Mjn (fun a0 s a wx=>s.1 <= 2 /\ ∃ t1 t2 t3,a = ((a0.put (some 150) t1).put (some 159) t2).put (some 160) t3 /\ MSt wr (.slice aq (rmetL ns pt lo (dl.take q)).length cq) (rmetS ns pt lo zn) s.1 s.2 t1 t2 t3 wx) 4 3 (0,false) rfl ?_ ?_
           ·exact ⟨by decide,u150,u159,u160,rfl,MSt.mk0 (Bd wr 1)⟩
           clear hHeld
           rintro ⟨k,al⟩ a wx ⟨hk,t1,t2,t3,rfl,hst2⟩
           simp only [Act.put,List.setIfInBounds_toArray,List.set_cons_zero,List.set_cons_succ]
           simp only at hk hst2
           have HSt:=hid hst2
           clear hst2
           have KX:=hid (HKI.out.on_ HSt.out.bel)
           have HSW:=hid (HSX.out wx KX.out.keep)
           have cgo : wx.cell? ⟨gN,m * 4 + 3,none⟩ = some (.slice aq (rmetL ns pt lo (dl.take q)).length cq):=by rw [blk_cell KX.out.cells,Array.getElem?_setIfInBounds];simp [hcsz.out]
           rcases (show k = 0 \/ k = 1 \/ k = 2 by omega) with rfl | rfl | rfl <;> clear hk <;> cases al
           ·refine .inr ⟨[8, 17], by decide, by kernel_rfl, by simp, ?_⟩
            refine Steps.cons (0,true) rfl rfl rfl (fun K hK=>?_) ?_
            ·go_simp;exact hK.out _ _ HSW.out ⟨by decide,_,t2,t3,rfl,HSt.out.load⟩
            refine Steps.cons (1,false) rfl rfl rfl (fun K hK=>?_) ?_
            ·go_simp;go_at_call 45;refine (rmet_any (some ⟨gN,0,none⟩) lo.length cN none 0 0 _ (some ⟨gat,0,none⟩) nn pt aa (atomsL ns lo 0).length ca ns lo (some ⟨b,o,none⟩) nn cn ar nr cr zn hzn wx (HMT.out wx KX.out)).mono ?_;rintro e wy ⟨rfl,bv⟩;exact hK.out _ _ (HSW.out.on bv) ⟨by decide,t1,_,t3,rfl,HSt.out.call bv⟩
            exact Steps.nil
           ·refine .inr ⟨[17], by decide, by kernel_rfl, by simp, ?_⟩
            refine Steps.cons (1,true) rfl rfl rfl (fun K hK=>?_) ?_
            ·go_simp;go_at_call 45;refine (rmet_any (some ⟨gN,0,none⟩) lo.length cN none 0 0 _ (some ⟨gat,0,none⟩) nn pt aa (atomsL ns lo 0).length ca ns lo (some ⟨b,o,none⟩) nn cn ar nr cr zn hzn wx (HMT.out wx KX.out)).mono ?_;rintro e wy ⟨rfl,bv⟩;exact hK.out _ _ (HSW.out.on bv) ⟨by decide,t1,_,t3,rfl,HSt.out.call bv⟩
            exact Steps.nil
           ·refine .inr ⟨[8, 18], by decide, by kernel_rfl, by simp, ?_⟩
            refine Steps.cons (1,true) rfl rfl rfl (fun K hK=>?_) ?_
            ·go_simp;exact hK.out _ _ HSW.out ⟨by decide,_,t2,t3,rfl,HSt.out.load⟩
            refine Steps.cons (2,false) rfl rfl rfl (fun K hK=>?_) ?_
            ·obtain rfl:=HSt.out.i1 (by omega);go_simp;exact hK.out _ _ (HSW.out.on (Ba _ _)) ⟨by decide,t1,_,_,rfl,HSt.out.build⟩
            exact Steps.nil
           ·refine .inr ⟨[18], by decide, by kernel_rfl, by simp, ?_⟩
            refine Steps.cons (2,true) rfl rfl rfl (fun K hK=>?_) ?_
            ·obtain rfl:=HSt.out.i1 (by omega);go_simp;exact hK.out _ _ (HSW.out.on (Ba _ _)) ⟨by decide,t1,_,_,rfl,HSt.out.build⟩
            exact Steps.nil
           ·refine .inr ⟨[8], by decide, by kernel_rfl, by simp, ?_⟩
            refine Steps.cons (2,true) rfl rfl rfl (fun K hK=>?_) ?_
            ·go_simp;exact hK.out _ _ HSW.out ⟨by decide,_,t2,t3,rfl,HSt.out.load⟩
            exact Steps.nil
           ·refine .inl ⟨rfl, ?_⟩
            obtain ⟨g0,rfl,hg0⟩:=HSt.out.i2 (by omega)
            obtain rfl:=HSt.out.i1 (by omega)
            obtain rfl:=HSt.out.i0 rfl
            have hI1 : IRow wx (some ⟨g0,0,none⟩) 1 1 [rmetS ns pt lo zn]:=lit_ints hg0 rfl rfl (by omega) (by intro y hy;have e : y = rmetS ns pt lo zn:=(by simpa using hy);have:=rmetS_rng (ns:=ns) (lo:=lo) HPOS.out (by omega) (n:=zn) (by rw [HPL.out];exact hzn);rw [e];unfold I64;omega)
            clear cgo
            refine hone 19 _ rfl (by kernel_rfl) (fun K hK=>?_)
            refine stepInts (some 161) rfl rfl _ _ 32 rfl Wi.heap.size 3 Tryz.underlying32 info_int _ _ (rmetL ns pt lo (dl.take q)) rfl KX.out.row (some ⟨g0,0,none⟩) 1 1 [rmetS ns pt lo zn] rfl hI1 (by have:=HLQ.out;omega) KX.out.size ?_
            intro v w5 ho hgrow
            have hpush:=KX.out.push hgrow ho
            rw [<- hst.out] at hpush
            obtain ⟨hg1,hg2⟩:=KX.out.grown hgrow
            obtain ⟨aV,nV,cV,rfl⟩ : ∃ aV nV cV,v = .slice aV nV cV:=by rcases ho.2 with ⟨h,_⟩ | ⟨g,cap,cur,h,_⟩ <;> exact ⟨_,_,_,h⟩
            have HPU:=hid hpush
            have q1 : w5.frozen? ⟨gN,m * 4 + 3,none⟩ = false:=blk_free hg1 _
            have q2 : w5.cell? ⟨gN,m * 4 + 3,none⟩ = some (.slice aq (rmetL ns pt lo (dl.take q)).length cq):=by rw [blk_cell hg1,Array.getElem?_setIfInBounds];simp [hcsz.out]
            have HSA:=hid (HSX.out w5 (fun c h1 h2=>(hg2 c h1).trans (KX.out.keep c h1 h2)))
            have HSB:=hid (HSX.out _ HPU.out.keep)
            clear ho hgrow hg1 hg2 hpush hI1 hg0
            refine hK.out _ _ HSA.out (fun hHeld=>?_)
            clear hK K hHeld
            try simp only [Act.put,List.setIfInBounds_toArray,List.set_cons_zero,List.set_cons_succ]
            refine hone 20 _ rfl (by kernel_rfl) (fun K hK=>?_)
            go_simp
            refine hK.out _ _ HSA.out (fun hHeld=>?_)
            clear hK K hHeld
            refine hone 21 _ rfl (by kernel_rfl) (fun K hK=>?_)
            go_simp
            refine hK.out _ _ HSA.out (fun hHeld=>?_)
            clear hK K hHeld
            refine hone 22 _ rfl (by kernel_rfl) (fun K hK=>?_)
            go_simp
            refine hK.out _ _ HSB.out (fun hHeld=>?_)
            clear hK K hHeld q1 q2 HSA HSB
            refine wpAnyH_done (by kernel_rfl) ?_ _
            generalize w5.setCell ⟨gN,m * 4 + 3,none⟩ (.slice aV nV cV) = w7 at *
            go_wp2
            refine ⟨?_,by show nk - ((q : Int) + 1).toNat < nk - (q : Int).toNat;omega⟩
            repeat apply Exists.intro
            refine ⟨?_,rfl⟩
            exact ⟨q + 1,by omega,by go_num,_,HPU.out⟩
          ·obtain rfl : nk = q := by omega
           have hrl2 : ∀ x∈rmetL ns pt lo dl,I64 x:=rmetL_i64 HPOS.out (by omega) _ (fun y hy=>by rw [HPL.out];have:=HKR.out y hy;omega)
           have hK2:=hKI
           rw [List.take_of_length_le (by omega)] at hK2
           obtain ⟨aq,cq,rfl,hIq⟩:=irow_of hK2.row hrl2
           have hN1:=HP2.out.nodes
           rw [<- HP2.out.len] at hN1
           have hN2:=hK2.nown HCUR.out hN1 hml hrl2 hWb.out.2.1
           rw [HP2.out.len] at hN2
           have HNEW : Hid (P2 w W2 Wp (.slice (some ⟨gN,0,none⟩) lo.length cN) ns pt lo (m + 1) (ls.set m ({ (ls.getD m (default,none,0,0)).1 with kids:=rmetL ns pt lo dl },aq,(rmetL ns pt lo dl).length,cq)) wr):=by
            refine ⟨hN2,by rw [List.length_set];exact HP2.out.len,fsts_set HP2.out.fsts HP2.out.len hlt (by rw [HON.out,Int.toNat_natCast,<- HDL.out]),fun j h1 h2=>?_,fun b h1 h2=>?_,Nat.le_trans HP2.out.size hK2.size,hK2.bel⟩
            ·rw [List.length_set] at h2
             rw [List.getD_eq_getElem?_getD,List.getElem?_set_ne (by omega),<- List.getD_eq_getElem?_getD];exact HP2.out.nils j (by omega) h2
            ·have hbn : b ≠ gN := fun e => h2 (by rw [e]; rfl)
             exact (hK2.keep b (Nat.lt_of_lt_of_le h1 HP2.out.size) hbn).trans (hkp.out b h1 hbn)
           clear hKI HKI hK2 hN1 hN2 hIq hrl2
           go_wp2
           exact ⟨⟨m + 1,by omega,by go_num,_,HNEW.out⟩,by simp [intOf] <;> omega⟩
        ·obtain rfl : lo.length = m := by omega
         have hfs:=HP.out.fsts
         rw [List.take_length,List.drop_length,List.map_nil,List.append_nil] at hfs
         have HFS:=hid hfs
         have hvo : Hid (∀ c,c < W2.heap.size -> (Value.slice aN lo.length cN).ownBlock ≠ some c):=fun c hc e=>by have:=(HC.out.nodes.lt c e).1;omega
         have hsW:=HC.out.size
         have hkq : Hid (∀ c,c < W2.heap.size -> wr.heap[c]? = Wp.heap[c]?):=fun c hc=>HP.out.keep c (by omega) (hvo.out c hc)
         have hgg:=(hkq.out gg hne2.out.1).trans ((HC.out.keep gg hne2.out.1 hne.out.1).trans X0.out)
         have hgo:=(hkq.out go hne2.out.2.2).trans HC.out.out
         have hgr:=(hkq.out gr hne2.out.2.1).trans ((HC.out.keep gr hne2.out.2.1 hne.out.2.1).trans X2.out)
         have HGG:=hid hgg
         have HGR:=hid hgr
         have HGO:=hid hgo
         have HSQ : Hid (W2.heap.size <= wr.heap.size):=Nat.le_trans hsW HP.out.size
         have c1 : wr.cell? ⟨gg,1,none⟩ = some (.slice ar nr cr):=blk_cell hgg 1
         clear hfs hgg hgo hgr hsW hmn hlt
         go_wp2_with fail
         clear c1
         obtain ⟨Wq,hWq⟩ : ∃ x,x = wr:=⟨_,rfl⟩
         subst hWq
         go_loopw [16] (fun i wz=>∃ m2 : Nat,m2 <= nr /\ i = .int .i64 m2 /\ Hid (∃ vR,RInv w Wq go 34 (.slice aN lo.length cN) vR (rmetL ns pt lo (rs.take m2)) wz)) (fun i _=>nr - (intOf i).toNat)
         case atStart=>exact ⟨0,Nat.zero_le _,rfl,_,HGO.out,World.ownsRow_nil _ _ _ _,fun _ _ _=>rfl,Nat.le_refl _,HP.out.bel⟩
         case round =>
          obtain ⟨m2,hmn,rfl,hI⟩:=hrel
          obtain ⟨vR,hRI⟩:=hI.out
          have hrl2 : ∀ x∈rmetL ns pt lo (rs.take m2),I64 x:=rmetL_i64 HPOS.out (by omega) _ (fun y hy=>by rw [HPL.out];have:=HRP.out y (List.mem_of_mem_take hy);omega)
          obtain ⟨aR,cR,rfl,hIq⟩:=irow_of hRI.own hrl2
          have HRI:=hid hRI
          have hgq : Hid (gg < Wq.heap.size /\ go < Wq.heap.size /\ gr < Wq.heap.size):=by have h1:=HSQ.out;have h2:=hne2.out;exact ⟨by omega,by omega,by omega⟩
          have cg1 : wr.cell? ⟨gg,1,none⟩ = some (.slice ar nr cr):=blk_cell ((hRI.keep gg hgq.out.1 hne.out.1).trans HGG.out) 1
          have hlq : Hid ((rmetL ns pt lo (rs.take m2)).length = m2):=by unfold Hid rmetL;rw [List.length_map,List.length_take];omega
          clear hI hRI
          by_cases hlt : m2 < nr
          ·obtain ⟨b, o, rfl, hlb, hcc⟩ := HG.out.roots.some (by omega)
           have hml : m2 < rs.length:=by omega
           obtain ⟨z,hz⟩ : ∃ z,z = rs.getD m2 0:=⟨_,rfl⟩
           have hzr:=HRP.out z (by rw [hz,List.getD_eq_getElem?_getD,List.getElem?_eq_getElem hml];exact List.getElem_mem hml)
           obtain ⟨zn,rfl⟩:=Int.eq_ofNat_of_zero_le hzr.1
           have hzn : zn < nn:=by omega
           have hst : Hid (rmetL ns pt lo (rs.take (m2 + 1)) = rmetL ns pt lo (rs.take m2) ++ [rmetS ns pt lo zn]):=by unfold Hid rmetL;rw [take_succ_of 0 hml,List.map_append,<- hz];simp
           have hbW : Hid (b < Wq.heap.size /\ b ≠ go):=by have h1:=HP.out.bel.size;have h2:=hne.out.2.2.2.2.2.2;exact ⟨by omega,by omega⟩
           have HS0 : Hid (TT gg b (o + m2) (.slice an nn cn) (.slice (some ⟨b,o,none⟩) nr cr) (zn : Int) Wq):=⟨blk_cell HGG.out 0,blk_cell HGG.out 1,by rw [hz];exact (HP.out.bel.cell (p:=⟨b,o + m2,none⟩) hlb).trans (hcc m2 hlt)⟩
           have HSX : Hid (∀ wx,(∀ c,c < Wq.heap.size -> c ≠ go -> wx.heap[c]? = Wq.heap[c]?) -> TT gg b (o + m2) (.slice an nn cn) (.slice (some ⟨b,o,none⟩) nr cr) (zn : Int) wx):=fun wx h=>HS0.out.far (h gg hgq.out.1 hne.out.1) (h b hbW.out.1 hbW.out.2)
           have HMT : Hid (∀ wx,(∀ c,c < Wq.heap.size -> c ≠ go -> wx.heap[c]? = Wq.heap[c]?) -> Wq.heap.size <= wx.heap.size -> Below w.heap.size w wx -> MetIn wx aN lo.length cN (ls.map Prod.fst) (some ⟨gat,0,none⟩) nn pt aa (atomsL ns lo 0).length ca ns lo an nn cn):=fun wx hx hsz bx=>by
            have hgl:=hne2.out.2.2
            have hN1:=HP.out.nodes.kept (fun c h1 h2=>hx c h2 (by omega)) hsz
            obtain ⟨_,_,hve,hNR⟩:=hN1.row
            rw [HP.out.len] at hve hNR
            cases hve
            have hall : ∀ c,W2.heap.size <= c -> c < Wp.heap.size -> (Value.slice aN lo.length cN).ownBlock ≠ some c -> wx.heap[c]? = Wp.heap[c]?:=fun c h1 h2 h3=>(hx c (Nat.lt_of_lt_of_le h2 HP.out.size) (by omega)).trans (HP.out.keep c h2 h3)
            refine ⟨hNR,rfl,fun j hj=>by rw [HFS.out];exact same_new hj,?_,?_,HG.out.nodes.below bx,⟨by omega,by omega⟩⟩
            ·have h1 := blk_irow HC.out.at_ (by rw [HPL.out]; omega) HPOS.out.i64
             rw [HPL.out] at h1
             exact h1.frame (Nat.le_trans HP.out.size hsz) (fun ad had=>by cases had;exact hall gat HC.out.atb HC.out.at_.lt (fun e=>HC.out.ng gat e rfl))
            ·obtain ⟨a2, c2, e2, hA⟩ := irow_of HC.out.atoms (atoms_i64 ns (by omega))
             cases e2
             exact hA.frame (Nat.le_trans HP.out.size hsz) (fun ad had=>by
              have hl2:=HC.out.atoms.lt ad.block (by rw [had];rfl)
              exact hall ad.block hl2.1 hl2.2 (fun e=>HC.out.an ad.block (by rw [had];rfl) e))
           clear hcc hz hzr hIq
           go_wp2_with fail
           clear cg1
           refine wp_region_held_drew (S:=TT gg b (o + m2) (.slice an nn cn) (.slice (some ⟨b,o,none⟩) nr cr) (zn : Int)) (by kernel_rfl) (HSX.out _ (fun c h1 h2=>((Bd wr 1).block c (Nat.lt_of_lt_of_le h1 HRI.out.size)).trans (HRI.out.keep c h1 h2))) (fun hHeld=>?_)
           refine htake 0 (some 171) (.pointer (some ⟨go,1,none⟩)) rfl rfl (by kernel_rfl) (by kernel_rfl) (by kernel_rfl) (fun _ _ _ h=>h) (Or.inl ⟨by rfl,fun wx hSw=>?_⟩) (by assumption) ?_
           ·go_simp
           simp only [Act.put,List.setIfInBounds_toArray,List.set_cons_zero,List.set_cons_succ]
           refine htake 3 (some 174) (.slice (some ⟨gat,0,none⟩) nn nn) rfl rfl (by kernel_rfl) (by kernel_rfl) (by kernel_rfl) (fun _ _ _ h=>h) (Or.inl ⟨by rfl,fun wx hSw=>?_⟩) (by assumption) ?_
           ·go_simp
           simp only [Act.put,List.setIfInBounds_toArray,List.set_cons_zero,List.set_cons_succ]
           refine htake 4 (some 175) (.slice aa (atomsL ns lo 0).length ca) rfl rfl (by kernel_rfl) (by kernel_rfl) (by kernel_rfl) (fun _ _ _ h=>h) (Or.inl ⟨by rfl,fun wx hSw=>?_⟩) (by assumption) ?_
           ·go_simp
           simp only [Act.put,List.setIfInBounds_toArray,List.set_cons_zero,List.set_cons_succ]
           refine htake 5 (some 176) (.agg #[.slice an nn cn,.slice (some ⟨b,o,none⟩) nr cr]) rfl rfl (by kernel_rfl) (by kernel_rfl) (by kernel_rfl) (fun _ _ _ h=>h) (Or.inl ⟨by rfl,fun wx hSw=>?_⟩) (by assumption) ?_
           ·obtain ⟨s0,s1,s2⟩:=hSw;go_simp
           simp only [Act.put,List.setIfInBounds_toArray,List.set_cons_zero,List.set_cons_succ]
           refine htake 6 (some 177) (.pointer (some ⟨gg,1,none⟩)) rfl rfl (by kernel_rfl) (by kernel_rfl) (by kernel_rfl) (fun _ _ _ h=>h) (Or.inl ⟨by rfl,fun wx hSw=>?_⟩) (by assumption) ?_
           ·go_simp
           simp only [Act.put,List.setIfInBounds_toArray,List.set_cons_zero,List.set_cons_succ]
           refine htake 7 (some 178) (.slice (some ⟨b,o,none⟩) nr cr) rfl rfl (by kernel_rfl) (by kernel_rfl) (by kernel_rfl) (fun _ _ _ h=>h) (Or.inl ⟨by rfl,fun wx hSw=>?_⟩) (by assumption) ?_
           ·obtain ⟨s0,s1,s2⟩:=hSw;go_simp
           simp only [Act.put,List.setIfInBounds_toArray,List.set_cons_zero,List.set_cons_succ]
           refine htake 8 (some 179) (.int .i64 (m2 : Int)) rfl rfl (by kernel_rfl) (by kernel_rfl) (by kernel_rfl) (fun _ _ _ h=>h) (Or.inl ⟨by rfl,fun wx hSw=>?_⟩) (by assumption) ?_
           ·go_simp
           simp only [Act.put,List.setIfInBounds_toArray,List.set_cons_zero,List.set_cons_succ]
           refine htake 9 (some 180) (.pointer (some ⟨b,o + m2,none⟩)) rfl rfl (by kernel_rfl) (by kernel_rfl) (by kernel_rfl) (fun _ _ _ h=>h) (Or.inl ⟨by rfl,fun wx hSw=>?_⟩) (by assumption) ?_
           ·go_simp
           simp only [Act.put,List.setIfInBounds_toArray,List.set_cons_zero,List.set_cons_succ]
           refine htake 10 (some 181) (.int .i64 (zn : Int)) rfl rfl (by kernel_rfl) (by kernel_rfl) (by kernel_rfl) (fun _ _ _ h=>h) (Or.inl ⟨by rfl,fun wx hSw=>?_⟩) (by assumption) ?_
           ·obtain ⟨s0,s1,s2⟩:=hSw;go_simp
           simp only [Act.put,List.setIfInBounds_toArray,List.set_cons_zero,List.set_cons_succ]
           refine wpAnyH_from Lrn Mrn (fun a0 s a wx=>s.1 <= 3 /\ ∃ t1 t2 t3 t4,a = (((a0.put (some 172) t1).put (some 173) t2).put (some 182) t3).put (some 183) t4 /\ NSt wr (.agg #[.slice aN lo.length cN,.slice aR (rmetL ns pt lo (rs.take m2)).length cR]) (.slice aR (rmetL ns pt lo (rs.take m2)).length cR) (rmetS ns pt lo zn) s.1 s.2 t1 t2 t3 t4 wx) 3 4 (0,false) rfl ?_ ?_
           ·exact ⟨by decide,u172,u173,u182,u183,rfl,NSt.mk0 (Bd wr 1)⟩
           clear hHeld
           rintro ⟨k,al⟩ a wx ⟨hk,t1,t2,t3,t4,rfl,hst2⟩
           simp only [Act.put,List.setIfInBounds_toArray,List.set_cons_zero,List.set_cons_succ]
           simp only at hk hst2
           have HSt:=hid hst2
           clear hst2
           have KK : Hid (∀ c,c < Wq.heap.size -> c ≠ go -> wx.heap[c]? = Wq.heap[c]?):=fun c h1 h2=>(HSt.out.bel.block c (Nat.lt_of_lt_of_le h1 HRI.out.size)).trans (HRI.out.keep c h1 h2)
           have HSW:=hid (HSX.out wx KK.out)
           have HGX:=hid ((HSt.out.bel.block go (Array.getElem?_eq_some_iff.1 HRI.out.out).1).trans HRI.out.out)
           have cg0 : wx.cell? ⟨go,0,none⟩ = some (.slice aN lo.length cN):=blk_cell HGX.out 0
           have cgo : wx.cell? ⟨go,1,none⟩ = some (.slice aR (rmetL ns pt lo (rs.take m2)).length cR):=blk_cell HGX.out 1
           have hszx : Hid (Wq.heap.size <= wx.heap.size):=Nat.le_trans HRI.out.size HSt.out.bel.size
           have hbwx : Hid (Below w.heap.size w wx):=HRI.out.bel.trans (HSt.out.bel.mono HRI.out.bel.size)
           rcases (show k = 0 \/ k = 1 \/ k = 2 \/ k = 3 by omega) with rfl | rfl | rfl | rfl <;> clear hk <;> cases al
           ·refine .inr ⟨[1, 2], by decide, by kernel_rfl, by simp, ?_⟩
            refine Steps.cons (0,true) rfl rfl rfl (fun K hK=>?_) ?_
            ·go_simp;exact hK.out _ _ HSW.out ⟨by decide,_,t2,t3,t4,rfl,HSt.out.load⟩
            refine Steps.cons (1,false) rfl rfl rfl (fun K hK=>?_) ?_
            ·go_simp;exact hK.out _ _ HSW.out ⟨by decide,t1,_,t3,t4,rfl,HSt.out.loadG⟩
            exact Steps.nil
           ·refine .inr ⟨[2], by decide, by kernel_rfl, by simp, ?_⟩
            refine Steps.cons (1,true) rfl rfl rfl (fun K hK=>?_) ?_
            ·go_simp;exact hK.out _ _ HSW.out ⟨by decide,t1,_,t3,t4,rfl,HSt.out.loadG⟩
            exact Steps.nil
           ·refine .inr ⟨[1, 11], by decide, by kernel_rfl, by simp, ?_⟩
            refine Steps.cons (1,true) rfl rfl rfl (fun K hK=>?_) ?_
            ·go_simp;exact hK.out _ _ HSW.out ⟨by decide,_,t2,t3,t4,rfl,HSt.out.load⟩
            refine Steps.cons (2,false) rfl rfl rfl (fun K hK=>?_) ?_
            ·obtain rfl:=HSt.out.j1 (by omega);go_simp;go_at_call 45;refine (rmet_any aN lo.length cN aR _ cR _ (some ⟨gat,0,none⟩) nn pt aa (atomsL ns lo 0).length ca ns lo an nn cn (some ⟨b,o,none⟩) nr cr zn hzn wx (HMT.out wx KK.out hszx.out hbwx.out)).mono ?_;rintro e wy ⟨rfl,bv⟩;exact hK.out _ _ (HSW.out.on bv) ⟨by decide,t1,_,_,t4,rfl,HSt.out.call bv⟩
            exact Steps.nil
           ·refine .inr ⟨[11], by decide, by kernel_rfl, by simp, ?_⟩
            refine Steps.cons (2,true) rfl rfl rfl (fun K hK=>?_) ?_
            ·obtain rfl:=HSt.out.j1 (by omega);go_simp;go_at_call 45;refine (rmet_any aN lo.length cN aR _ cR _ (some ⟨gat,0,none⟩) nn pt aa (atomsL ns lo 0).length ca ns lo an nn cn (some ⟨b,o,none⟩) nr cr zn hzn wx (HMT.out wx KK.out hszx.out hbwx.out)).mono ?_;rintro e wy ⟨rfl,bv⟩;exact hK.out _ _ (HSW.out.on bv) ⟨by decide,t1,_,_,t4,rfl,HSt.out.call bv⟩
            exact Steps.nil
           ·refine .inr ⟨[1, 12], by decide, by kernel_rfl, by simp, ?_⟩
            refine Steps.cons (2,true) rfl rfl rfl (fun K hK=>?_) ?_
            ·go_simp;exact hK.out _ _ HSW.out ⟨by decide,_,t2,t3,t4,rfl,HSt.out.load⟩
            refine Steps.cons (3,false) rfl rfl rfl (fun K hK=>?_) ?_
            ·obtain rfl:=HSt.out.i1 (by omega);go_simp;exact hK.out _ _ (HSW.out.on (Ba _ _)) ⟨by decide,t1,t2,_,_,rfl,HSt.out.build⟩
            exact Steps.nil
           ·refine .inr ⟨[12], by decide, by kernel_rfl, by simp, ?_⟩
            refine Steps.cons (3,true) rfl rfl rfl (fun K hK=>?_) ?_
            ·obtain rfl:=HSt.out.i1 (by omega);go_simp;exact hK.out _ _ (HSW.out.on (Ba _ _)) ⟨by decide,t1,t2,_,_,rfl,HSt.out.build⟩
            exact Steps.nil
           ·refine .inr ⟨[1], by decide, by kernel_rfl, by simp, ?_⟩
            refine Steps.cons (3,true) rfl rfl rfl (fun K hK=>?_) ?_
            ·go_simp;exact hK.out _ _ HSW.out ⟨by decide,_,t2,t3,t4,rfl,HSt.out.load⟩
            exact Steps.nil
           ·refine .inl ⟨rfl, ?_⟩
            obtain ⟨g0,rfl,hg0⟩:=HSt.out.i2 (by omega)
            obtain rfl:=HSt.out.i1 (by omega)
            obtain rfl:=HSt.out.i0 rfl
            have hI1 : IRow wx (some ⟨g0,0,none⟩) 1 1 [rmetS ns pt lo zn]:=lit_ints hg0 rfl rfl (by omega) (by intro y hy;have e : y = rmetS ns pt lo zn:=(by simpa using hy);have:=rmetS_rng (ns:=ns) (lo:=lo) HPOS.out (by omega) (n:=zn) (by rw [HPL.out];exact hzn);rw [e];unfold I64;omega)
            have HOX:=hid (owns_on HRI.out.own HSt.out.bel)
            clear cgo cg0
            refine hone 13 _ rfl (by kernel_rfl) (fun K hK=>?_)
            refine stepInts (some 184) rfl rfl _ _ 32 rfl Wq.heap.size 3 Tryz.underlying32 info_int _ _ (rmetL ns pt lo (rs.take m2)) rfl HOX.out (some ⟨g0,0,none⟩) 1 1 [rmetS ns pt lo zn] rfl hI1 (by have:=hlq.out;omega) hszx.out ?_
            intro v w5 ho hgrow
            rw [<- hst.out] at ho
            have hrow : ∀ k,(Value.slice aR (rmetL ns pt lo (rs.take m2)).length cR).ownBlock = some k -> Wq.heap.size <= k:=fun k hk=>(HOX.out.lt k hk).1
            have hsame : ∀ c,c < Wq.heap.size -> w5.heap[c]? = wx.heap[c]?:=fun c hc=>hgrow.block c (Nat.lt_of_lt_of_le hc hszx.out) (fun e=>by have:=hrow c e.symm;omega)
            have hgt5:=(hsame go hgq.out.2.1).trans HGX.out
            have hb5 : Below w.heap.size w w5:=hbwx.out.trans ((Below.refl _ _).grown hgrow (Nat.le_trans HP.out.bel.size hszx.out) (fun k hk=>Nat.le_trans HP.out.bel.size (hrow k hk)))
            have hk5 : ∀ c,c < Wq.heap.size -> c ≠ go -> w5.heap[c]? = Wq.heap[c]?:=fun c h1 h2=>(hsame c h1).trans (KK.out c h1 h2)
            have HSA:=hid (HSX.out w5 hk5)
            obtain ⟨aV,nV,cV,rfl⟩ : ∃ aV nV cV,v = .slice aV nV cV:=by rcases ho.2 with ⟨h,_⟩ | ⟨g,cap,cur,h,_⟩ <;> exact ⟨_,_,_,h⟩
            have q1 : w5.frozen? ⟨go,1,none⟩ = false:=blk_free hgt5 1
            have q2 : w5.cell? ⟨go,1,none⟩ = some (.slice aR (rmetL ns pt lo (rs.take m2)).length cR):=blk_cell hgt5 1
            have hlm1 : (rmetL ns pt lo (rs.take (m2 + 1))).length = (rmetL ns pt lo (rs.take m2)).length + 1:=by rw [hst.out];simp
            rw [<- hlm1] at ho
            have HNEW : Hid (RInv w Wq go 34 (.slice aN lo.length cN) (.slice aV nV cV) (rmetL ns pt lo (rs.take (m2 + 1))) (w5.setCell ⟨go,1,none⟩ (.slice aV nV cV))):=by
             refine ⟨?_,owns_afar ho (fun e=>by have:=(ho.lt go e).1;have:=hgq.out;omega),fun c hc hcg=>(Below.heap_setCell _ _ _ _ hcg).trans (hk5 c hc hcg),?_,hb5.setCell (p:=⟨go,1,none⟩) hne.out.2.2.2.2.2.2 _⟩
             ·have:=blk_set (i:=1) hgt5 (.slice aV nV cV);rw [this];rfl
             ·have:=hgrow.size;have:=hszx.out;simp [World.setCell];omega
            have HSB:=hid (HSX.out _ HNEW.out.keep)
            clear ho hgrow hrow hsame hgt5 hb5 hlm1 hI1 hg0 hk5
            refine hK.out _ _ HSA.out (fun hHeld=>?_)
            clear hK K hHeld
            try simp only [Act.put,List.setIfInBounds_toArray,List.set_cons_zero,List.set_cons_succ]
            refine hone 14 _ rfl (by kernel_rfl) (fun K hK=>?_)
            go_simp
            refine hK.out _ _ HSA.out (fun hHeld=>?_)
            clear hK K hHeld
            refine hone 15 _ rfl (by kernel_rfl) (fun K hK=>?_)
            go_simp
            refine hK.out _ _ HSB.out (fun hHeld=>?_)
            clear hK K hHeld q1 q2 HSA HSB
            refine wpAnyH_done (by kernel_rfl) ?_ _
            generalize w5.setCell ⟨go,1,none⟩ (.slice aV nV cV) = w7 at *
            go_wp2
            first
             | exact ⟨⟨m2 + 1,by omega,by go_num,_,HNEW.out⟩,by simp [intOf] <;> omega⟩
             | (refine ⟨?_,by show nr - ((m2 : Int) + 1).toNat < nr - (m2 : Int).toNat;omega⟩;repeat apply Exists.intro);(refine ⟨?_,rfl⟩;exact ⟨m2 + 1,by omega,by go_num,_,HNEW.out⟩)
          ·obtain rfl : nr = m2 := by omega
           have hR2:=HRI.out.own
           rw [List.take_of_length_le (by omega)] at hR2
           have hrl3 : ∀ x∈rmetL ns pt lo rs,I64 x:=rmetL_i64 HPOS.out (by omega) _ (fun y hy=>by rw [HPL.out];have:=HRP.out y hy;omega)
           have hll : (rmetL ns pt lo (rs.take nr)).length = (rmetL ns pt lo rs).length:=by rw [List.take_of_length_le (by omega)]
           have y6:=HRI.out.out
           rw [hll] at y6
           obtain ⟨_,_,hve,hI6⟩:=irow_of hR2 hrl3
           cases hve
           have r6:=(HRI.out.keep gr hgq.out.2.2 hne.out.2.1).trans HGR.out
           have d0 : wr.cell? ⟨gr,0,none⟩ = some (.slice none 0 0):=blk_cell r6 0
           have d1 : wr.cell? ⟨gr,1,none⟩ = some (.slice none 0 0):=blk_cell r6 1
           have e0 : wr.frozen? ⟨gr,0,none⟩ = false:=blk_free r6 0
           have e1 : wr.frozen? ⟨gr,1,none⟩ = false:=blk_free r6 1
           have c0 : wr.cell? ⟨go,0,none⟩ = some (.slice aN lo.length cN):=blk_cell y6 0
           have c1 : wr.cell? ⟨go,1,none⟩ = some (.slice aR (rmetL ns pt lo rs).length cR):=blk_cell y6 1
           have HR6:=hid r6
           have HI6:=hid hI6
           have HO6:=hid hR2
           have HN6:=hid (HP.out.nodes.kept (fun c h1 h2=>HRI.out.keep c h2 (by have:=hne2.out;omega)) HRI.out.size)
           clear hR2 hrl3 hll y6 r6 hI6 hIq
           go_wp2_with fail
           have hst:=store2 (v1:=.slice aN lo.length cN) (v2:=.slice aR (rmetL ns pt lo rs).length cR) HR6.out
           have t0:=blk_cell hst 0
           have t1:=blk_cell hst 1
           (try simp only [Exit.inBlock,Exit.then]);refine bodyPost_ret (by simp [results,Tryz.results14,go_sem,t0,t1];rfl) rfl ?_
           have N7 : NOwn W2.heap.size ((wr.setCell ⟨gr,0,none⟩ (.slice aN lo.length cN)).setCell ⟨gr,1,none⟩ (.slice aR (rmetL ns pt lo rs).length cR)) (.slice aN lo.length cN) ls:=HN6.out.frame (fun b hb=>store2_far (by have:=hne2.out;omega)) (by simp [World.setCell])
           obtain ⟨_,_,hve,hNR⟩:=N7.row
           rw [HP.out.len] at hve hNR
           cases hve
           rw [HFS.out] at hNR
           rw [HFIN.out]
           have I7:=HI6.out.frame (w':=(wr.setCell ⟨gr,0,none⟩ (.slice aN lo.length cN)).setCell ⟨gr,1,none⟩ (.slice aR (rmetL ns pt lo rs).length cR)) (by simp [World.setCell]) (fun ad had=>store2_far (by have:=HO6.out.lt ad.block (by rw [had];rfl);have:=hgq.out;omega))
           have b7:=store2_below (v1:=.slice aN lo.length cN) (v2:=.slice aR (rmetL ns pt lo rs).length cR) HRI.out.bel hne.out.2.2.2.2.2.1
           have s7 : ((wr.setCell ⟨gr,0,none⟩ (.slice aN lo.length cN)).setCell ⟨gr,1,none⟩ (.slice aR (rmetL ns pt lo rs).length cR)).heap.size = wr.heap.size:=by simp [World.setCell]
           refine ⟨_,_,_,_,_,_,rfl,⟨hNR,I7⟩,fun w9 hs9 hb9=>⟨?_,?_⟩,b7⟩
           ·obtain ⟨_, _, hve, hNR9⟩ := (N7.kept (w' := w9) (fun b h1 h2 => hb9 b (Nat.le_trans HB2.out.size h1) h2) hs9).row
            rw [HP.out.len] at hve hNR9
            cases hve
            rw [HFS.out] at hNR9
            exact hNR9
           ·exact I7.frame hs9 (fun ad had=>by
             have h1:=HO6.out.lt ad.block (by rw [had];rfl)
             have h2:=HP.out.bel.size
             exact hb9 ad.block (by omega) (by rw [s7];omega))
      | cons o st =>
       obtain ⟨g,rfl⟩:=ht3 (by simp)
       obtain ⟨f'',rfl⟩ : ∃ k,f' = k + 1:=⟨f' - 1,by have:=hF.fu;simp at this;omega⟩
       obtain ⟨ho0,ho1'⟩:=hF.rng o (by simp)
       obtain ⟨on,rfl⟩:=Int.eq_ofNat_of_zero_le ho0
       have hon : on < nn:=by omega
       have hlen2 : ((on : Int) :: st).reverse.length = st.length + 1:=by simp
       have hst3 : st.length <= 400000:=by have:=hF.fu;simp at this;omega
       have cw : wr.cell? ⟨g,st.length,none⟩ = some (.int .i64 (on : Int)):=by
        have:=owns_cell hC.todo (i:=st.length) (by simp)
        rw [List.getD_eq_getElem?_getD,List.reverse_cons,List.getElem?_append_right (by simp)] at this
        simpa using this
       have hpop:=hC.popT rfl (m:=st.length) (by simp)
       rw [List.reverse_cons,List.take_left' (by simp)] at hpop
       rw [hlen2] at ht1 hC
       have HC:=hid hpop
       have HF:=hid hF
       have HPOS:=hid hPos
       have HFOL:=hid hfol
       have HMI:=hid (hpop.met hlo hF.plen (by omega) hPos (HG.out.nodes.below hpop.bel))
       have hgk:=(hpop.keep gg hne2.out.1 hne.out.1).trans X0.out
       have c0 : wr.cell? ⟨gg,0,none⟩ = some (.slice an nn cn):=blk_cell hgk 0
       have c1 : wr.cell? ⟨gg,1,none⟩ = some (.slice ar nr cr):=blk_cell hgk 1
       have e0:=blk_cell hpop.out 0
       have e1:=blk_cell hpop.out 1
       simp only [List.getElem?_toArray] at e0 e1
       clear hC hF hPos hfol hpop hgk hI hNR
       go_wp2_with fail
       refine (rmet_any aN lo.length cN none 0 0 (lo.map (bareN ns)) (some ⟨gat,0,none⟩) nn pt aa (atomsL ns lo 0).length ca ns lo an nn cn ar nr cr on hon wr HMI.out).mono ?_
       rintro e w2 ⟨rfl,b2⟩
       have HC2:=hid (HC.out.on_ b2)
       obtain ⟨r,hr⟩ : ∃ r,r = rmetS ns pt lo on:=⟨_,rfl⟩
       rw [<- hr]
       have HRR:=hid hr
       clear hr b2 c0 c1 e0 e1 cw
       by_cases hr0 : 0 <= r
       ·have e5 : decide (0 <= r) = true := by simp [hr0]
        go_wp2_with fail
        go_roundg gk'
        case measure=>omega
        case rel =>
         refine ⟨f'',by omega,by omega,_,pt,lo,st,HC2.out,HF.out.skip,HPOS.out,?_⟩
         rw [<- HFOL.out,rfollowS,if_pos (by rw [Int.toNat_natCast,<- HRR.out];exact hr0)]
       ·have e5 : decide (0 <= r) = false := by simp [hr0]
        have hm1 : pt.getD on 0 = -1:=rmet_neg (by rw [<- HRR.out];exact hr0) HPOS.out (by rw [HF.out.plen];exact hon)
        have hfr:=HF.out.fresh (by rw [Int.toNat_natCast];exact hm1)
        rw [Int.toNat_natCast] at hfr
        have HFR:=hid hfr
        have hroom : lo.length < nn:=by have:=hfr.cnt;simp at this;omega
        have HFOL2 : Hid (rfollowS ns f'' ((ns.getD on default).kids ++ st) (pt.set on lo.length) (lo ++ [(on : Int)]) = rfollowS ns 300001 rs (start nn).1 (start nn).2):=by
         unfold Hid;rw [<- HFOL.out,rfollowS,if_neg (by rw [Int.toNat_natCast,<- HRR.out];exact hr0),Int.toNat_natCast]
        obtain ⟨b,o,rfl,hlb,hcc⟩:=HG.out.nodes.some (by omega)
        have hnd:=hcc on hon
        have hdok:=HG.out.nodes.get hon
        have hkl:=HK.out _ (getD_mem_nd (by omega : on < ns.length))
        have hbare : Hid (bareN ns (on : Int) = { ns.getD on default with kids:=[] }):=rfl
        have hatm : Hid (atomsL ns (lo ++ [(on : Int)]) 0 = atomsL ns lo 0 ++ (if atomB (ns.getD on default).kind = true then [((lo.length : Nat) : Int)] else [])):=by
         unfold Hid;rw [atomsL_snoc,Int.toNat_natCast,Nat.zero_add]
        generalize ns.getD on default = d at *
        obtain ⟨j1,j2,j3,ak,nk,ck,j4,j5⟩:=hnd
        obtain ⟨dk,dn,dt,dl⟩:=d
        simp only [] at j1 j2 j3 j5 hdok hkl
        have J5:=hid j5
        have HDOK:=hid hdok
        have bW:=HC2.out.bel
        replace j1:=(bW.cell (p:=⟨b,o + on * 4,none⟩) hlb).trans j1
        replace j2:=(bW.cell (p:=⟨b,o + on * 4 + 1,none⟩) hlb).trans j2
        replace j3:=(bW.cell (p:=⟨b,o + on * 4 + 2,none⟩) hlb).trans j3
        replace j4:=(bW.cell (p:=⟨b,o + on * 4 + 3,none⟩) hlb).trans j4
        have hnk:=j5.fits
        have hnk2:=j5.most
        have hnk3:=j5.len
        unfold maxLen at hnk2
        have hgk:=(HC2.out.keep gg hne2.out.1 hne.out.1).trans X0.out
        have c0 : w2.cell? ⟨gg,0,none⟩ = some (.slice (some ⟨b,o,none⟩) nn cn):=blk_cell hgk 0
        have HC3:=hid (HC2.out.on_ (Ba w2 (.cells #[.int .i64 dk,.int .i64 dn,.string dt,.slice ak nk ck] 54)))
        have k1 : (w2.alloc (.cells #[.int .i64 dk,.int .i64 dn,.string dt,.slice ak nk ck] 54)).cell? ⟨gat,on,none⟩ = some (.int .i64 (pt.getD on 0)):=HC3.out.at_.cell (by rw [HF.out.plen];exact hon)
        have k2 : (w2.alloc (.cells #[.int .i64 dk,.int .i64 dn,.string dt,.slice ak nk ck] 54)).frozen? ⟨gat,on,none⟩ = false:=HC3.out.at_.free on
        have HC4:=hid (HC3.out.setAt on (lo.length : Int))
        have hxg : ((w2.alloc (.cells #[.int .i64 dk,.int .i64 dn,.string dt,.slice ak nk ck] 54)).setCell ⟨gat,on,none⟩ (.int .i64 (lo.length : Int))).heap[w2.heap.size]? = some (.cells #[.int .i64 dk,.int .i64 dn,.string dt,.slice ak nk ck] 54 (0,0)):=(Below.heap_setCell _ _ _ _ (by show w2.heap.size ≠ gat;have:=HC2.out.at_.lt;omega)).trans (blk_new _ _ _)
        have hgx0 : ((w2.alloc (.cells #[.int .i64 dk,.int .i64 dn,.string dt,.slice ak nk ck] 54)).setCell ⟨gat,on,none⟩ (.int .i64 (lo.length : Int))).cell? ⟨w2.heap.size,0,none⟩ = some (.int .i64 dk):=blk_cell hxg 0
        have HXG:=hid hxg
        have HNT:=hid (ne_fresh HC2.out.todo (Nat.le_refl _))
        have HNO:=hid (ne_fresh HC2.out.old (Nat.le_refl _))
        have HNA:=hid (ne_fresh HC2.out.atoms (Nat.le_refl _))
        have HNN:=hid (ne_fresh HC2.out.nodes (Nat.le_refl _))
        have hszl : Hid (w2.heap.size < ((w2.alloc (.cells #[.int .i64 dk,.int .i64 dn,.string dt,.slice ak nk ck] 54)).setCell ⟨gat,on,none⟩ (.int .i64 (lo.length : Int))).heap.size):=(Array.getElem?_eq_some_iff.1 hxg).1
        have hbg : Hid (W2.heap.size <= w2.heap.size):=HC2.out.size
        clear hcc hdok j5 hgk hxg hfr bW
        go_wp2_with fail
        obtain ⟨gx,hgx⟩ : ∃ g,g = w2.heap.size:=⟨_,rfl⟩
        rw [<- hgx] at HXG HNT HNO HNA HNN hszl hbg hgx0
        rw [<- hgx]
        clear hgx k1 k2 c0 j1 j2 j3 j4 hgx0
        generalize ((w2.alloc (.cells #[.int .i64 dk,.int .i64 dn,.string dt,.slice ak nk ck] 54)).setCell ⟨gat,on,none⟩ (.int .i64 (lo.length : Int))) = w5 at *
        refine (ratom_any dk _).mono ?_
        rintro e w7 ⟨rfl,hw7⟩
        subst hw7
        have hal : (atomsL ns lo 0).length <= 1000000:=by have:=atomsL_len ns lo 0;omega
        cases ha : atomB dk
        ·go_wp2_with (first
          | (at_builtin;refine appz rfl _ _ 32 rfl W2.heap.size 3 Tryz.underlying32 info_int _ _ lo rfl (HC4.out.on_ (Ba w7 (.cells #[.int .i64 (on : Int)] 3))).old ⟨w7.heap.size,0,none⟩ 1 (on : Int) rfl (cell_new w7 (.int .i64 (on : Int)) 3) (by omega) (HC4.out.on_ (Ba w7 (.cells #[.int .i64 (on : Int)] 3))).size ?_;intro gO cO w9 hoO hgO hlO _;have HC9:=hid ((HC4.out.on_ (Ba w7 (.cells #[.int .i64 (on : Int)] 3))).pushO hoO hgO hlO);have HX9:=hid (gx_keep hgO (((Ba w7 (.cells #[.int .i64 (on : Int)] 3)).block gx (Array.getElem?_eq_some_iff.1 HXG.out).1).trans HXG.out) HNO.out);have g0:=blk_cell HC9.out.out 0;have x0:=blk_cell HX9.out 0;have x1:=blk_cell HX9.out 1;have x2:=blk_cell HX9.out 2;simp only [List.getElem?_toArray] at g0 x0 x1 x2;have HNd:=hid (HC9.out.on_ (Ba w9 (.cells #[.int .i64 dk,.int .i64 dn,.string dt,.slice none 0 0] 54))).nodes;rw [List.length_map] at HNd;clear hoO hgO hlO)
          | (at_builtin;refine appn rfl _ _ 31 rfl W2.heap.size 54 Tryz.underlying31 info_node _ _ (ncs (bares (lo.map (bareN ns)))) rfl HNd.out w9.heap.size 1 (⟨dk,dn,dt,[]⟩,none,0,0) rfl (fun j u hj=>news_of (blk_new w9 _ _) hj) (by omega) (HC9.out.on_ (Ba w9 (.cells #[.int .i64 dk,.int .i64 dn,.string dt,.slice none 0 0] 54))).size ?_;intro gN cN2 w10 hoN hgN hlN _;have q0:=((HC9.out.on_ (Ba w9 (.cells #[.int .i64 dk,.int .i64 dn,.string dt,.slice none 0 0] 54))).grown_base hgN (fun x hx=>((HC9.out.on_ (Ba w9 (.cells #[.int .i64 dk,.int .i64 dn,.string dt,.slice none 0 0] 54))).nodes.lt x hx).1)).1;have q1:=blk_free q0 0;have q2:=blk_cell q0 0;have HX10:=hid (gx_keep hgN (((Ba w9 (.cells #[.int .i64 dk,.int .i64 dn,.string dt,.slice none 0 0] 54)).block gx (Array.getElem?_eq_some_iff.1 HX9.out).1).trans HX9.out) HNN.out);have HC10:=hid ((HC9.out.on_ (Ba w9 (.cells #[.int .i64 dk,.int .i64 dn,.string dt,.slice none 0 0] 54))).pushN (d:=⟨dk,dn,dt,[]⟩) ⟨⟨HDOK.out.1,HDOK.out.2.1,HDOK.out.2.2⟩,rfl⟩ hoN hgN hlN);have HX11 : Hid ((w10.setCell ⟨go,0,none⟩ (.slice (some ⟨gN,0,none⟩) (lo.length + 1) cN2)).heap[gx]? = some (.cells #[.int .i64 dk,.int .i64 dn,.string dt,.slice ak nk ck] 54 (0,0))):=(Below.heap_setCell _ _ _ _ (by show gx ≠ go;have:=hbg.out;have:=hne2.out;omega)).trans HX10.out;have x3:=blk_cell HX11.out 3;simp only [List.getElem?_toArray] at q2 x3;clear hoN hgN hlN q0))
         clear q1 q2 g0 x0 x1 x2 x3
         generalize w10.setCell ⟨go,0,none⟩ (.slice (some ⟨gN,0,none⟩) (lo.length + 1) cN2) = w11 at *
         have hC11:=HC10.out
         have e9 : lo.map (bareN ns) ++ [(⟨dk,dn,dt,[]⟩ : Nd)] = (lo ++ [(on : Int)]).map (bareN ns):=by rw [List.map_append,List.map_cons,List.map_nil,hbare.out]
         have e10 : atomsL ns lo 0 = atomsL ns (lo ++ [(on : Int)]) 0:=by rw [hatm.out];simp [ha]
         rw [e9] at hC11
         have HC11:=hid hC11
         have E10:=hid e10
         clear hC11 e9 e10
         go_loopw [5,12] (fun v i wz=>∃ k : Nat,k <= nk /\ i = .int .i64 ((k : Int) - 1) /\ Hid ((RC w W2 go gat (.slice (some ⟨gN,0,none⟩) (lo.length + 1) cN2) (.slice (some ⟨gO,0,none⟩) (lo.length + 1) cO) v (.slice aa (atomsL ns lo 0).length ca) (pt.set on (lo.length : Int)) (lo ++ [(on : Int)]) (atomsL ns lo 0) (st.reverse ++ (dl.drop k).reverse) ((lo ++ [(on : Int)]).map (bareN ns)) wz) /\ wz.heap[gx]? = some (.cells #[.int .i64 dk,.int .i64 dn,.string dt,.slice ak nk ck] 54 (0,0)) /\ v.ownBlock ≠ some gx)) (fun _ i _=>(intOf i + 1).toNat)
         case atStart=>exact ⟨nk,Nat.le_refl _,rfl,by rw [List.drop_of_length_le (by omega),List.reverse_nil,List.append_nil];exact HC11.out,HX11.out,HNT.out⟩
         case round =>
          obtain ⟨k,hkn,rfl,hR⟩:=hrel
          have kx3 : wr.cell? ⟨gx,3,none⟩ = some (.slice ak nk ck):=blk_cell hR.out.2.1 3
          cases k with
          | succ k =>
           have ek : (((k + 1 : Nat) : Int) - 1) = (k : Int):=by omega
           rw [ek]
           obtain ⟨bk,ok,rfl,hlk,hck⟩:=J5.out.some (by omega)
           have hml : k < dl.length:=by omega
           obtain ⟨z,hz⟩ : ∃ z,z = dl.getD k 0:=⟨_,rfl⟩
           have hc1 : wr.cell? ⟨bk,ok + k,none⟩ = some (.int .i64 z):=by rw [hz];exact (hR.out.1.bel.cell (p:=⟨bk,ok + k,none⟩) hlk).trans (hck k (by omega))
           have hst : Hid (st.reverse ++ (dl.drop k).reverse = st.reverse ++ (dl.drop (k + 1)).reverse ++ [z]):=by unfold Hid;rw [hz,rev_drop hml,List.append_assoc]
           have HRA:=hid (hR.out.1.on_ (Ba wr (.cells #[.int .i64 z] 3)))
           have HXA:=hid (((Ba wr (.cells #[.int .i64 z] 3)).block gx (Array.getElem?_eq_some_iff.1 hR.out.2.1).1).trans hR.out.2.1)
           have HVN:=hid hR.out.2.2
           obtain ⟨LL,hLL⟩ : ∃ L,L = (st.reverse ++ (dl.drop (k + 1)).reverse).length:=⟨_,rfl⟩
           have hl1 : LL <= 1000000:=by rw [hLL];simp;omega
           have HTD:=hid HRA.out.todo
           rw [<- hLL] at HTD
           clear hLL hck hz
           go_wp2_with (at_builtin;refine appz rfl _ _ 32 rfl W2.heap.size 3 Tryz.underlying32 info_int _ _ (st.reverse ++ (dl.drop (k + 1)).reverse) rfl HTD.out ⟨wr.heap.size,0,none⟩ 1 z rfl (cell_new wr (.int .i64 z) 3) hl1 HRA.out.size ?_;intro g2 cap2 w4 hown hgrow hloc hglt)
           have hP:=HRA.out.pushT hown hgrow hloc
           have hX:=gx_keep hgrow HXA.out HVN.out
           have hgl2 : gx < (wr.alloc (.cells #[.int .i64 z] 3)).heap.size:=(Array.getElem?_eq_some_iff.1 HXA.out).1
           rw [<- hst.out] at hP
           refine ⟨⟨k,by omega,by go_num,hP,hX,fun e=>?_⟩,by simp [intOf] <;> omega⟩
           have e' : g2 = gx:=Option.some.inj e
           rcases hloc with h | h
           ·exact HVN.out (h.trans (congrArg some e'))
           ·omega
          | zero =>
           have ek : (((0 : Nat) : Int) - 1) = -1:=by omega
           rw [ek]
           have hR2:=hR.out.1
           rw [List.drop_zero,<- List.reverse_append] at hR2
           have HR3:=hid hR2
           clear hR hR2 kx3
           go_wp2_with fail
           go_roundg gk'
           case measure=>omega
           case rel=>exact ⟨f'',by omega,by omega,_,pt.set on (lo.length : Int),lo ++ [(on : Int)],dl ++ st,by rw [<- E10.out];exact HR3.out,HFR.out,HPOS.out.set _ _ (by omega),HFOL2.out⟩
        ·go_wp2_with (first
          | (at_builtin;refine appz rfl _ _ 32 rfl W2.heap.size 3 Tryz.underlying32 info_int _ _ (atomsL ns lo 0) rfl (HC4.out.on_ (Ba w7 (.cells #[.int .i64 (lo.length : Int)] 3))).atoms ⟨w7.heap.size,0,none⟩ 1 (lo.length : Int) rfl (cell_new w7 (.int .i64 (lo.length : Int)) 3) hal (HC4.out.on_ (Ba w7 (.cells #[.int .i64 (lo.length : Int)] 3))).size ?_;intro gA cA w8 hoA hgA hlA _;have HC8:=hid ((HC4.out.on_ (Ba w7 (.cells #[.int .i64 (lo.length : Int)] 3))).pushA hoA hgA hlA);have HX8:=hid (gx_keep hgA (((Ba w7 (.cells #[.int .i64 (lo.length : Int)] 3)).block gx hszl.out).trans HXG.out) HNA.out);clear hoA hgA hlA)
          | (at_builtin;refine appz rfl _ _ 32 rfl W2.heap.size 3 Tryz.underlying32 info_int _ _ lo rfl (HC8.out.on_ (Ba w8 (.cells #[.int .i64 (on : Int)] 3))).old ⟨w8.heap.size,0,none⟩ 1 (on : Int) rfl (cell_new w8 (.int .i64 (on : Int)) 3) (by omega) (HC8.out.on_ (Ba w8 (.cells #[.int .i64 (on : Int)] 3))).size ?_;intro gO cO w9 hoO hgO hlO _;have HC9:=hid ((HC8.out.on_ (Ba w8 (.cells #[.int .i64 (on : Int)] 3))).pushO hoO hgO hlO);have HX9:=hid (gx_keep hgO (((Ba w8 (.cells #[.int .i64 (on : Int)] 3)).block gx (Array.getElem?_eq_some_iff.1 HX8.out).1).trans HX8.out) HNO.out);have g0:=blk_cell HC9.out.out 0;have x0:=blk_cell HX9.out 0;have x1:=blk_cell HX9.out 1;have x2:=blk_cell HX9.out 2;simp only [List.getElem?_toArray] at g0 x0 x1 x2;have HNd:=hid (HC9.out.on_ (Ba w9 (.cells #[.int .i64 dk,.int .i64 dn,.string dt,.slice none 0 0] 54))).nodes;rw [List.length_map] at HNd;clear hoO hgO hlO)
          | (at_builtin;refine appn rfl _ _ 31 rfl W2.heap.size 54 Tryz.underlying31 info_node _ _ (ncs (bares (lo.map (bareN ns)))) rfl HNd.out w9.heap.size 1 (⟨dk,dn,dt,[]⟩,none,0,0) rfl (fun j u hj=>news_of (blk_new w9 _ _) hj) (by omega) (HC9.out.on_ (Ba w9 (.cells #[.int .i64 dk,.int .i64 dn,.string dt,.slice none 0 0] 54))).size ?_;intro gN cN2 w10 hoN hgN hlN _;have q0:=((HC9.out.on_ (Ba w9 (.cells #[.int .i64 dk,.int .i64 dn,.string dt,.slice none 0 0] 54))).grown_base hgN (fun x hx=>((HC9.out.on_ (Ba w9 (.cells #[.int .i64 dk,.int .i64 dn,.string dt,.slice none 0 0] 54))).nodes.lt x hx).1)).1;have q1:=blk_free q0 0;have q2:=blk_cell q0 0;have HX10:=hid (gx_keep hgN (((Ba w9 (.cells #[.int .i64 dk,.int .i64 dn,.string dt,.slice none 0 0] 54)).block gx (Array.getElem?_eq_some_iff.1 HX9.out).1).trans HX9.out) HNN.out);have HC10:=hid ((HC9.out.on_ (Ba w9 (.cells #[.int .i64 dk,.int .i64 dn,.string dt,.slice none 0 0] 54))).pushN (d:=⟨dk,dn,dt,[]⟩) ⟨⟨HDOK.out.1,HDOK.out.2.1,HDOK.out.2.2⟩,rfl⟩ hoN hgN hlN);have HX11 : Hid ((w10.setCell ⟨go,0,none⟩ (.slice (some ⟨gN,0,none⟩) (lo.length + 1) cN2)).heap[gx]? = some (.cells #[.int .i64 dk,.int .i64 dn,.string dt,.slice ak nk ck] 54 (0,0))):=(Below.heap_setCell _ _ _ _ (by show gx ≠ go;have:=hbg.out;have:=hne2.out;omega)).trans HX10.out;have x3:=blk_cell HX11.out 3;simp only [List.getElem?_toArray] at q2 x3;clear hoN hgN hlN q0))
         clear q1 q2 g0 x0 x1 x2 x3
         generalize w10.setCell ⟨go,0,none⟩ (.slice (some ⟨gN,0,none⟩) (lo.length + 1) cN2) = w11 at *
         have hC11:=HC10.out
         have e9 : lo.map (bareN ns) ++ [(⟨dk,dn,dt,[]⟩ : Nd)] = (lo ++ [(on : Int)]).map (bareN ns):=by rw [List.map_append,List.map_cons,List.map_nil,hbare.out]
         have e10 : atomsL ns lo 0 ++ [((lo.length : Nat) : Int)] = atomsL ns (lo ++ [(on : Int)]) 0:=by rw [hatm.out];simp [ha]
         rw [e9,e10] at hC11
         have HC11:=hid hC11
         have E10:=hid e10
         clear hC11 e9 e10
         go_loopw [5,12] (fun v i wz=>∃ k : Nat,k <= nk /\ i = .int .i64 ((k : Int) - 1) /\ Hid ((RC w W2 go gat (.slice (some ⟨gN,0,none⟩) (lo.length + 1) cN2) (.slice (some ⟨gO,0,none⟩) (lo.length + 1) cO) v (.slice (some ⟨gA,0,none⟩) ((atomsL ns lo 0).length + 1) cA) (pt.set on (lo.length : Int)) (lo ++ [(on : Int)]) (atomsL ns (lo ++ [(on : Int)]) 0) (st.reverse ++ (dl.drop k).reverse) ((lo ++ [(on : Int)]).map (bareN ns)) wz) /\ wz.heap[gx]? = some (.cells #[.int .i64 dk,.int .i64 dn,.string dt,.slice ak nk ck] 54 (0,0)) /\ v.ownBlock ≠ some gx)) (fun _ i _=>(intOf i + 1).toNat)
         case atStart=>exact ⟨nk,Nat.le_refl _,rfl,by rw [List.drop_of_length_le (by omega),List.reverse_nil,List.append_nil];exact HC11.out,HX11.out,HNT.out⟩
         case round =>
          obtain ⟨k,hkn,rfl,hR⟩:=hrel
          have kx3 : wr.cell? ⟨gx,3,none⟩ = some (.slice ak nk ck):=blk_cell hR.out.2.1 3
          cases k with
          | succ k =>
           have ek : (((k + 1 : Nat) : Int) - 1) = (k : Int):=by omega
           rw [ek]
           obtain ⟨bk,ok,rfl,hlk,hck⟩:=J5.out.some (by omega)
           have hml : k < dl.length:=by omega
           obtain ⟨z,hz⟩ : ∃ z,z = dl.getD k 0:=⟨_,rfl⟩
           have hc1 : wr.cell? ⟨bk,ok + k,none⟩ = some (.int .i64 z):=by rw [hz];exact (hR.out.1.bel.cell (p:=⟨bk,ok + k,none⟩) hlk).trans (hck k (by omega))
           have hst : Hid (st.reverse ++ (dl.drop k).reverse = st.reverse ++ (dl.drop (k + 1)).reverse ++ [z]):=by unfold Hid;rw [hz,rev_drop hml,List.append_assoc]
           have HRA:=hid (hR.out.1.on_ (Ba wr (.cells #[.int .i64 z] 3)))
           have HXA:=hid (((Ba wr (.cells #[.int .i64 z] 3)).block gx (Array.getElem?_eq_some_iff.1 hR.out.2.1).1).trans hR.out.2.1)
           have HVN:=hid hR.out.2.2
           obtain ⟨LL,hLL⟩ : ∃ L,L = (st.reverse ++ (dl.drop (k + 1)).reverse).length:=⟨_,rfl⟩
           have hl1 : LL <= 1000000:=by rw [hLL];simp;omega
           have HTD:=hid HRA.out.todo
           rw [<- hLL] at HTD
           clear hLL hck hz
           go_wp2_with (at_builtin;refine appz rfl _ _ 32 rfl W2.heap.size 3 Tryz.underlying32 info_int _ _ (st.reverse ++ (dl.drop (k + 1)).reverse) rfl HTD.out ⟨wr.heap.size,0,none⟩ 1 z rfl (cell_new wr (.int .i64 z) 3) hl1 HRA.out.size ?_;intro g2 cap2 w4 hown hgrow hloc hglt)
           have hP:=HRA.out.pushT hown hgrow hloc
           have hX:=gx_keep hgrow HXA.out HVN.out
           have hgl2 : gx < (wr.alloc (.cells #[.int .i64 z] 3)).heap.size:=(Array.getElem?_eq_some_iff.1 HXA.out).1
           rw [<- hst.out] at hP
           refine ⟨⟨k,by omega,by go_num,hP,hX,fun e=>?_⟩,by simp [intOf] <;> omega⟩
           have e' : g2 = gx:=Option.some.inj e
           rcases hloc with h | h
           ·exact HVN.out (h.trans (congrArg some e'))
           ·omega
          | zero =>
           have ek : (((0 : Nat) : Int) - 1) = -1:=by omega
           rw [ek]
           have hR2:=hR.out.1
           rw [List.drop_zero,<- List.reverse_append] at hR2
           have HR3:=hid hR2
           clear hR hR2 kx3
           go_wp2_with fail
           go_roundg gk'
           case measure=>omega
           case rel=>exact ⟨f'',by omega,by omega,_,pt.set on (lo.length : Int),lo ++ [(on : Int)],dl ++ st,HR3.out,HFR.out,HPOS.out.set _ _ (by omega),HFOL2.out⟩
theorem rcanon_any (an ar : Option Addr) (nn cn nr cr : Nat) (ns : List Nd) (rs : List Int) (w : World) (G : GIs w an nn cn ar nr cr ns rs) (hs : smallG ns) (hk : ∀ d∈ns,d.kids.length <= 100) (hn : nn <= 2500) (hnr : nr <= 2500) :
  Calls Tryz.prog 14 #[GVal an nn cn ar nr cr] w fun e w'=>∃ a1 n1 c1 a2 n2 c2,e = .returned (GVal a1 n1 c1 a2 n2 c2) /\ GIs w' a1 n1 c1 a2 n2 c2 (canonN ns rs).1 (canonN ns rs).2 /\ Below w.heap.size w w':=by
 refine (rcanon_own an ar nn cn nr cr ns rs w G hs hk hn hnr).mono ?_
 rintro e w' ⟨a1,n1,c1,a2,n2,c2,h1,h2,_,h3⟩
 exact ⟨a1,n1,c1,a2,n2,c2,h1,h2,h3⟩
end Go.Proofs.YticimejfjjmikaaGreatDoor
