import Derived.Test.YticimejfjjmikaaGreatDoorJ1
import Derived.Test.YticimejfjjmikaaGreatDoorSG1
import Derived.Test.YticimejfjjmikaaGreatDoorG21
import Derived.Test.YticimejfjjmikaaGreatDoorW36
set_option linter.unusedVariables false
set_option linter.unusedSimpArgs false
namespace Go.Proofs.YticimejfjjmikaaGreatDoor
open Go.RowKit
def Apart (a b : Option Nat) : Prop:=∀ x,a = some x -> b = some x -> False
theorem Apart.symm {a b : Option Nat} (h : Apart a b) : Apart b a:=fun x h1 h2=>h x h2 h1
theorem Apart.grow {a b : Option Nat} (h : Apart a b) {g H : Nat} (hl : a = some g \/ g = H) (hb : ∀ x,b = some x -> x < H) : Apart (some g) b:=fun x e1 e2=>by
 cases e1
 rcases hl with h1 | h1
 ·exact h g h1 e2
 ·have:=hb g e2;omega
theorem owns_grown {w w' : World} {base : Nat} {e : TypeId} {k : Nat} {v : Value} {n : Nat} {xs : List Value} {r : Option Nat} (h : w.ownsRow base e k v n xs) (hg : w.grownBy w' r) (ha : Apart v.ownBlock r) : w'.ownsRow base e k v n xs:=by
 refine ⟨h.1,?_⟩
 rcases h.2 with h0 | ⟨g,cap,cur,h1,h2,h3,h4⟩
 ·exact .inl h0
 ·subst h1
  exact .inr ⟨g,cap,cur,rfl,h2,(hg.block g (Array.getElem?_eq_some_iff.1 h3).1 (fun e=>ha g rfl e.symm)).trans h3,h4⟩
theorem blk_grown {w w' : World} {g : Nat} {l : List Int} {r : Option Nat} (h : Blk w g l) (hg : w.grownBy w' r) (ha : Apart (some g) r) : Blk w' g l:=(hg.block g h.lt (fun e=>ha g rfl e.symm)).trans h
theorem owns_afar {w : World} {base : Nat} {e : TypeId} {k : Nat} {v : Value} {n : Nat} {xs : List Value} {p : Addr} {u : Value} (h : w.ownsRow base e k v n xs) (ha : v.ownBlock ≠ some p.block) : (w.setCell p u).ownsRow base e k v n xs:=by
 refine ⟨h.1,?_⟩
 rcases h.2 with h0 | ⟨g,cap,cur,h1,h2,h3,h4⟩
 ·exact .inl h0
 ·subst h1
  exact .inr ⟨g,cap,cur,rfl,h2,(Below.heap_setCell _ _ _ _ (fun e=>ha (congrArg some e))).trans h3,h4⟩
def bares (os : List Nd) : List (Nd × (Option Addr × Nat × Nat)):=os.map fun d=>(d,none,0,0)
theorem bares_fst (os : List Nd) : (bares os).map Prod.fst = os:=by
 unfold bares;rw [List.map_map]
 conv=>rhs;rw [<- List.map_id os]
 rfl
theorem bares_length (os : List Nd) : (bares os).length = os.length:=by simp [bares]
theorem bares_snoc (os : List Nd) (d : Nd) : bares (os ++ [d]) = bares os ++ [(d,none,0,0)]:=by simp [bares]
structure RC (w Wb : World) (go gat : Nat) (vN vo vt va : Value) (pt lo la stk : List Int) (os : List Nd) (wr : World) : Prop where
 out : wr.heap[go]? = some (.cells #[vN,.slice none 0 0] 34 (0,0))
 gol : go < Wb.heap.size
 gow : w.heap.size <= go
 keep : ∀ b,b < Wb.heap.size -> b ≠ go -> wr.heap[b]? = Wb.heap[b]?
 bel : Below w.heap.size w wr
 wb : w.heap.size <= Wb.heap.size
 size : Wb.heap.size <= wr.heap.size
 at_ : Blk wr gat pt
 atb : Wb.heap.size <= gat
 old : wr.ownsRow Wb.heap.size 3 1 vo lo.length (cz lo)
 todo : wr.ownsRow Wb.heap.size 3 1 vt stk.length (cz stk)
 atoms : wr.ownsRow Wb.heap.size 3 1 va la.length (cz la)
 nodes : wr.ownsRow Wb.heap.size 54 4 vN os.length (ncs (bares os))
 nok : ∀ d∈os,NdOk d /\ d.kids = []
 ot : Apart vo.ownBlock vt.ownBlock
 oa : Apart vo.ownBlock va.ownBlock
 ta : Apart vt.ownBlock va.ownBlock
 on : Apart vo.ownBlock vN.ownBlock
 tn : Apart vt.ownBlock vN.ownBlock
 an : Apart va.ownBlock vN.ownBlock
 og : Apart vo.ownBlock (some gat)
 tg : Apart vt.ownBlock (some gat)
 ag : Apart va.ownBlock (some gat)
 ng : Apart vN.ownBlock (some gat)
section
variable {w Wb : World} {go gat : Nat} {vN vo vt va : Value} {pt lo la stk : List Int} {os : List Nd} {wr wr' : World}
theorem own_below {base : Nat} {e : TypeId} {k : Nat} {v : Value} {n : Nat} {xs : List Value} (h : wr.ownsRow base e k v n xs) : ∀ x,v.ownBlock = some x -> x < wr.heap.size:=fun x hx=>(h.lt x hx).2
theorem RC.on_ (h : RC w Wb go gat vN vo vt va pt lo la stk os wr) (hb : Below wr.heap.size wr wr') : RC w Wb go gat vN vo vt va pt lo la stk os wr' :=
 ⟨(hb.block go (Array.getElem?_eq_some_iff.1 h.out).1).trans h.out,h.gol,h.gow,fun b h1 h2=>(hb.block b (Nat.lt_of_lt_of_le h1 h.size)).trans (h.keep b h1 h2),h.bel.trans (hb.mono h.bel.size),h.wb,Nat.le_trans h.size hb.size,(hb.block gat h.at_.lt).trans h.at_,h.atb,owns_on h.old hb,owns_on h.todo hb,owns_on h.atoms hb,owns_on h.nodes hb,h.nok,h.ot,h.oa,h.ta,h.on,h.tn,h.an,h.og,h.tg,h.ag,h.ng⟩
theorem RC.setAt (h : RC w Wb go gat vN vo vt va pt lo la stk os wr) (i : Nat) (z : Int) : RC w Wb go gat vN vo vt va (pt.set i z) lo la stk os (wr.setCell ⟨gat,i,none⟩ (.int .i64 z)):=by
 have hg:=h.gol
 have ha:=h.atb
 have hs : (wr.setCell ⟨gat,i,none⟩ (.int .i64 z)).heap.size = wr.heap.size:=by simp [World.setCell]
 have f : ∀ b,b ≠ gat -> (wr.setCell ⟨gat,i,none⟩ (.int .i64 z)).heap[b]? = wr.heap[b]?:=fun b hb=>Below.heap_setCell _ _ _ _ hb
 exact ⟨(f go (by omega)).trans h.out,h.gol,h.gow,fun b h1 h2=>(f b (by omega)).trans (h.keep b h1 h2),h.bel.setCell (p:=⟨gat,i,none⟩) (by show w.heap.size <= gat;have:=h.wb;omega) _,h.wb,by rw [hs];exact h.size,h.at_.set i z,h.atb,
  owns_afar h.old (fun e=>h.og gat e rfl),owns_afar h.todo (fun e=>h.tg gat e rfl),owns_afar h.atoms (fun e=>h.ag gat e rfl),owns_afar h.nodes (fun e=>h.ng gat e rfl),h.nok,h.ot,h.oa,h.ta,h.on,h.tn,h.an,h.og,h.tg,h.ag,h.ng⟩
theorem RC.grown_base (h : RC w Wb go gat vN vo vt va pt lo la stk os wr) {r : Option Nat} (hg : wr.grownBy wr' r) (hr : ∀ x,r = some x -> Wb.heap.size <= x) : wr'.heap[go]? = some (.cells #[vN,.slice none 0 0] 34 (0,0)) /\ (∀ b,b < Wb.heap.size -> b ≠ go -> wr'.heap[b]? = Wb.heap[b]?) /\ Below w.heap.size w wr' /\ Wb.heap.size <= wr'.heap.size:=by
 have hlt:=(Array.getElem?_eq_some_iff.1 h.out).1
 refine ⟨(hg.block go hlt (fun e=>by have:=hr go e.symm;have:=h.gol;omega)).trans h.out,fun b h1 h2=>(hg.block b (Nat.lt_of_lt_of_le h1 h.size) (fun e=>by have:=hr b e.symm;omega)).trans (h.keep b h1 h2),h.bel.trans ((Below.refl _ _).grown hg (Nat.le_trans h.wb h.size) (fun k hk=>Nat.le_trans h.wb (hr k hk))),Nat.le_trans h.size hg.size⟩
theorem RC.pushT (h : RC w Wb go gat vN vo vt va pt lo la stk os wr) {g cap n : Nat} {z : Int} (ho : wr'.ownsRow Wb.heap.size 3 1 (.slice (some ⟨g,0,none⟩) n cap) n (cz (stk ++ [z]))) (hg : wr.grownBy wr' vt.ownBlock) (hl : vt.ownBlock = some g \/ g = wr.heap.size) :
  RC w Wb go gat vN vo (.slice (some ⟨g,0,none⟩) n cap) va pt lo la (stk ++ [z]) os wr':=by
 obtain ⟨b1,b2,b3,b4⟩:=h.grown_base hg (fun x hx=>(h.todo.lt x hx).1)
 have hn : n = (stk ++ [z]).length:=by have:=ho.1;rw [cz_length] at this;omega
 subst hn
 have hgat : ∀ x,some gat = some x -> x < wr.heap.size:=fun x e=>by cases e;exact h.at_.lt
 exact ⟨b1,h.gol,h.gow,b2,b3,h.wb,b4,blk_grown h.at_ hg h.tg.symm,h.atb,owns_grown h.old hg h.ot,ho,owns_grown h.atoms hg h.ta.symm,owns_grown h.nodes hg h.tn.symm,h.nok,(h.ot.symm.grow hl (own_below h.old)).symm,h.oa,h.ta.grow hl (own_below h.atoms),h.on,h.tn.grow hl (own_below h.nodes),h.an,h.og,h.tg.grow hl hgat,h.ag,h.ng⟩
theorem RC.pushO (h : RC w Wb go gat vN vo vt va pt lo la stk os wr) {g cap n : Nat} {z : Int} (ho : wr'.ownsRow Wb.heap.size 3 1 (.slice (some ⟨g,0,none⟩) n cap) n (cz (lo ++ [z]))) (hg : wr.grownBy wr' vo.ownBlock) (hl : vo.ownBlock = some g \/ g = wr.heap.size) :
  RC w Wb go gat vN (.slice (some ⟨g,0,none⟩) n cap) vt va pt (lo ++ [z]) la stk os wr':=by
 obtain ⟨b1,b2,b3,b4⟩:=h.grown_base hg (fun x hx=>(h.old.lt x hx).1)
 have hn : n = (lo ++ [z]).length:=by have:=ho.1;rw [cz_length] at this;omega
 subst hn
 have hgat : ∀ x,some gat = some x -> x < wr.heap.size:=fun x e=>by cases e;exact h.at_.lt
 exact ⟨b1,h.gol,h.gow,b2,b3,h.wb,b4,blk_grown h.at_ hg h.og.symm,h.atb,ho,owns_grown h.todo hg h.ot.symm,owns_grown h.atoms hg h.oa.symm,owns_grown h.nodes hg h.on.symm,h.nok,h.ot.grow hl (own_below h.todo),h.oa.grow hl (own_below h.atoms),h.ta,h.on.grow hl (own_below h.nodes),h.tn,h.an,h.og.grow hl hgat,h.tg,h.ag,h.ng⟩
theorem RC.pushA (h : RC w Wb go gat vN vo vt va pt lo la stk os wr) {g cap n : Nat} {z : Int} (ho : wr'.ownsRow Wb.heap.size 3 1 (.slice (some ⟨g,0,none⟩) n cap) n (cz (la ++ [z]))) (hg : wr.grownBy wr' va.ownBlock) (hl : va.ownBlock = some g \/ g = wr.heap.size) :
  RC w Wb go gat vN vo vt (.slice (some ⟨g,0,none⟩) n cap) pt lo (la ++ [z]) stk os wr':=by
 obtain ⟨b1,b2,b3,b4⟩:=h.grown_base hg (fun x hx=>(h.atoms.lt x hx).1)
 have hn : n = (la ++ [z]).length:=by have:=ho.1;rw [cz_length] at this;omega
 subst hn
 have hgat : ∀ x,some gat = some x -> x < wr.heap.size:=fun x e=>by cases e;exact h.at_.lt
 exact ⟨b1,h.gol,h.gow,b2,b3,h.wb,b4,blk_grown h.at_ hg h.ag.symm,h.atb,owns_grown h.old hg h.oa,owns_grown h.todo hg h.ta,ho,owns_grown h.nodes hg h.an.symm,h.nok,h.ot,(h.oa.symm.grow hl (own_below h.old)).symm,(h.ta.symm.grow hl (own_below h.todo)).symm,h.on,h.tn,h.an.grow hl (own_below h.nodes),h.og,h.tg,h.ag.grow hl hgat,h.ng⟩
theorem RC.pushN (h : RC w Wb go gat vN vo vt va pt lo la stk os wr) {g cap n : Nat} {d : Nd} (hd : NdOk d /\ d.kids = []) (ho : wr'.ownsRow Wb.heap.size 54 4 (.slice (some ⟨g,0,none⟩) n cap) n (ncs (bares os) ++ nc (d,none,0,0))) (hg : wr.grownBy wr' vN.ownBlock) (hl : vN.ownBlock = some g \/ g = wr.heap.size) :
  RC w Wb go gat (.slice (some ⟨g,0,none⟩) n cap) vo vt va pt lo la stk (os ++ [d]) (wr'.setCell ⟨go,0,none⟩ (.slice (some ⟨g,0,none⟩) n cap)):=by
 obtain ⟨b1,b2,b3,b4⟩:=h.grown_base hg (fun x hx=>(h.nodes.lt x hx).1)
 have hn : n = (os ++ [d]).length:=by have:=ho.1;rw [<- ncs_snoc,<- bares_snoc,ncs_length,bares_length] at this;omega
 subst hn
 have hgat : ∀ x,some gat = some x -> x < wr.heap.size:=fun x e=>by cases e;exact h.at_.lt
 have hs : (wr'.setCell ⟨go,0,none⟩ (.slice (some ⟨g,0,none⟩) (os ++ [d]).length cap)).heap.size = wr'.heap.size:=by simp [World.setCell]
 have hgl:=h.gol
 have ne : ∀ {e : TypeId} {k n : Nat} {v : Value} {xs : List Value},wr'.ownsRow Wb.heap.size e k v n xs -> v.ownBlock ≠ some go:=fun ho e=>by have:=(ho.lt go e).1;omega
 have o1:=owns_grown h.old hg h.on
 have o2:=owns_grown h.todo hg h.tn
 have o3:=owns_grown h.atoms hg h.an
 refine ⟨?_,h.gol,h.gow,fun b h1 h2=>(Below.heap_setCell _ _ _ _ h2).trans (b2 b h1 h2),b3.setCell (p:=⟨go,0,none⟩) h.gow _,h.wb,by rw [hs];exact b4,(Below.heap_setCell _ _ _ _ (by show gat ≠ go;have:=h.atb;omega)).trans (blk_grown h.at_ hg h.ng.symm),h.atb,
  owns_afar o1 (ne o1),owns_afar o2 (ne o2),owns_afar o3 (ne o3),?_,?_,h.ot,h.oa,h.ta,(h.on.symm.grow hl (own_below h.old)).symm,(h.tn.symm.grow hl (own_below h.todo)).symm,(h.an.symm.grow hl (own_below h.atoms)).symm,h.og,h.tg,h.ag,h.ng.grow hl hgat⟩
 ·have:=blk_set (i:=0) b1 (.slice (some ⟨g,0,none⟩) (os ++ [d]).length cap);rw [this];rfl
 ·rw [bares_snoc,ncs_snoc];exact owns_afar ho (ne ho)
 ·intro x hx
  rcases List.mem_append.1 hx with hx | hx
  ·exact h.nok x hx
  ·obtain rfl : x = d := by simpa using hx
   exact hd
theorem RC.popT {g n m cap : Nat} (h : RC w Wb go gat vN vo (.slice (some ⟨g,0,none⟩) n cap) va pt lo la stk os wr) (hn : n = stk.length) (hm : m <= n) : RC w Wb go gat vN vo (.slice (some ⟨g,0,none⟩) m cap) va pt lo la (stk.take m) os wr:=by
 subst hn
 have ht : wr.ownsRow Wb.heap.size 3 1 (.slice (some ⟨g,0,none⟩) m cap) (stk.take m).length (cz (stk.take m)):=by
  have:=owns_take h.todo hm
  have e : (cz stk).take m = cz (stk.take m):=by unfold cz;rw [List.map_take]
  rw [e] at this
  rw [List.length_take,Nat.min_eq_left hm];exact this
 exact ⟨h.out,h.gol,h.gow,h.keep,h.bel,h.wb,h.size,h.at_,h.atb,h.old,ht,h.atoms,h.nodes,h.nok,h.ot,h.oa,h.ta,h.on,h.tn,h.an,h.og,h.tg,h.ag,h.ng⟩
theorem RC.nrow (h : RC w Wb go gat vN vo vt va pt lo la stk os wr) : ∃ ao cap,vN = .slice ao os.length cap /\ NRow wr ao os.length cap os:=by
 have hN : NOwn Wb.heap.size wr vN (bares os):=by
  refine ⟨by rw [bares_length];exact h.nodes,fun x hx=>?_,fun x hx=>?_⟩
  ·obtain ⟨d, hd, rfl⟩ := List.mem_map.1 hx
   exact ⟨by rw [(h.nok d hd).2];exact IRow.nil _ _,fun ad had=>by cases had⟩
  ·obtain ⟨d, hd, rfl⟩ := List.mem_map.1 hx
   exact (h.nok d hd).1
 obtain ⟨ao,cap,e,hr⟩:=hN.row
 rw [bares_fst] at hr
 rw [bares_length] at e hr
 exact ⟨ao,cap,e,hr⟩
end
theorem ncs_set : ∀ {ls : List (Nd × (Option Addr × Nat × Nat))} {i : Nat} (a : Option Addr) (m c : Nat) (l' : List Int),i < ls.length -> (ncs ls).set (i * 4 + 3) (.slice a m c) = ncs (ls.set i ({ (ls.getD i (default,none,0,0)).1 with kids:=l' },a,m,c))
 | [],_,_,_,_,_,h=>by simp at h
 | x :: ls,0,a,m,c,l',_=>by simp [ncs,nc]
 | x :: ls,i + 1,a,m,c,l',h=>by
  have ih:=ncs_set (ls:=ls) (i:=i) a m c l' (by simpa using h)
  have e : (i + 1) * 4 + 3 = (nc x).length + (i * 4 + 3):=by simp [nc];omega
  simp only [ncs,List.flatMap_cons,List.set_cons_succ,List.getD_cons_succ] at *
  rw [e,List.set_append_right _ _ (by omega),Nat.add_sub_cancel_left,ih]
structure KI (w Wi : World) (gN : Nat) (cur : Array Value) (i : Nat) (v : Value) (l : List Int) (wz : World) : Prop where
 cells : wz.heap[gN]? = some (.cells (cur.setIfInBounds (i * 4 + 3) v) 54 (0,0))
 gNl : gN < Wi.heap.size
 row : wz.ownsRow Wi.heap.size 3 1 v l.length (cz l)
 keep : ∀ b,b < Wi.heap.size -> b ≠ gN -> wz.heap[b]? = Wi.heap[b]?
 size : Wi.heap.size <= wz.heap.size
 bel : Below w.heap.size w wz
 gw : w.heap.size <= gN
 wi : w.heap.size <= Wi.heap.size
section
variable {w Wi : World} {gN : Nat} {cur : Array Value} {i : Nat} {v : Value} {l : List Int} {wz wy : World}
theorem KI.on_ (h : KI w Wi gN cur i v l wz) (hb : Below wz.heap.size wz wy) : KI w Wi gN cur i v l wy :=
 ⟨(hb.block gN (Nat.lt_of_lt_of_le h.gNl h.size)).trans h.cells,h.gNl,owns_on h.row hb,fun b h1 h2=>(hb.block b (Nat.lt_of_lt_of_le h1 h.size)).trans (h.keep b h1 h2),Nat.le_trans h.size hb.size,h.bel.trans (hb.mono h.bel.size),h.gw,h.wi⟩
theorem KI.grown (h : KI w Wi gN cur i v l wz) (hg : wz.grownBy wy v.ownBlock) : wy.heap[gN]? = some (.cells (cur.setIfInBounds (i * 4 + 3) v) 54 (0,0)) /\ (∀ b,b < Wi.heap.size -> wy.heap[b]? = wz.heap[b]?):=by
 have hr : ∀ b,b < Wi.heap.size -> some b ≠ v.ownBlock:=fun b hb e=>by have:=(h.row.lt b e.symm).1;omega
 exact ⟨(hg.block gN (Nat.lt_of_lt_of_le h.gNl h.size) (hr gN h.gNl)).trans h.cells,fun b hb=>hg.block b (Nat.lt_of_lt_of_le hb h.size) (hr b hb)⟩
theorem KI.push (h : KI w Wi gN cur i v l wz) (hg : wz.grownBy wy v.ownBlock) {v' : Value} {z : Int} {n : Nat} (ho : wy.ownsRow Wi.heap.size 3 1 v' n (cz (l ++ [z]))) : KI w Wi gN cur i v' (l ++ [z]) (wy.setCell ⟨gN,i * 4 + 3,none⟩ v'):=by
 obtain ⟨h1,h2⟩:=h.grown hg
 have hn : n = (l ++ [z]).length:=by have:=ho.1;rw [cz_length] at this;omega
 subst hn
 have hs : (wy.setCell ⟨gN,i * 4 + 3,none⟩ v').heap.size = wy.heap.size:=by simp [World.setCell]
 refine ⟨?_,h.gNl,owns_afar ho (fun e=>by have:=(ho.lt gN e).1;have:=h.gNl;omega),fun b hb hbg=>(Below.heap_setCell _ _ _ _ hbg).trans ((h2 b hb).trans (h.keep b hb hbg)),by rw [hs];exact Nat.le_trans h.size hg.size,(h.bel.trans ((Below.refl _ _).grown hg (Nat.le_trans h.wi h.size) (fun k hk=>Nat.le_trans h.wi (h.row.lt k hk).1))).setCell (p:=⟨gN,i * 4 + 3,none⟩) h.gw _,h.gw,h.wi⟩
 have:=blk_set (i:=i * 4 + 3) h1 v'
 rw [this];simp
theorem KI.nown {base cN : Nat} {ls : List (Nd × (Option Addr × Nat × Nat))} {a : Option Addr} {m c : Nat} (h : KI w Wi gN cur i (.slice a m c) l wz) (hcur : Wi.heap[gN]? = some (.cells cur 54 (0,0))) (hN : NOwn base Wi (.slice (some ⟨gN,0,none⟩) ls.length cN) ls) (hi : i < ls.length) (hb : ∀ z∈l,I64 z) (hbase : base <= Wi.heap.size) :
  NOwn base wz (.slice (some ⟨gN,0,none⟩) ls.length cN) (ls.set i ({ (ls.getD i (default,none,0,0)).1 with kids:=l },a,m,c)):=by
 have hmem : ls.getD i (default,none,0,0)∈ls:=by rw [List.getD_eq_getElem?_getD,List.getElem?_eq_getElem hi];exact List.getElem_mem hi
 obtain ⟨ao,cap,hv,hI⟩:=irow_of h.row hb
 cases hv
 refine ⟨?_,fun x hx=>?_,fun x hx=>?_⟩
 ·rw [List.length_set]
  rcases hN.own.2 with ⟨h0,_⟩ | ⟨g',cap',cur',h1,h2,h3,h4,h5,h6,h7⟩
  ·cases h0
  ·cases h1
   rw [hcur] at h3
   cases h3
   refine ⟨by rw [ncs_length,List.length_set],.inr ⟨gN,cN,_,rfl,h2,h.cells,h4,h5,by rw [Array.size_setIfInBounds];exact h6,?_⟩⟩
   rw [<- ncs_set a l.length c l hi,<- h7]
   rw [Array.toList_setIfInBounds]
   rw [List.take_set]
 ·rcases List.mem_or_eq_of_mem_set hx with hx | hx
  ·obtain ⟨q1, q2⟩ := hN.kids x hx
   refine ⟨q1.frame h.size (fun ad had=>?_),fun ad had=>?_⟩
   ·obtain ⟨r1, r2, r3⟩ := q2 ad had
    exact h.keep _ r2 (fun e=>r3 (by rw [e];rfl))
   ·obtain ⟨r1, r2, r3⟩ := q2 ad had
    exact ⟨r1,Nat.lt_of_lt_of_le r2 h.size,r3⟩
  ·subst hx
   refine ⟨hI,fun ad had=>?_⟩
   have had' : a = some ad:=had
   have hl:=h.row.lt ad.block (by rw [had'];rfl)
   exact ⟨by omega,hl.2,fun e=>by have e' : gN = ad.block:=Option.some.inj e;have:=h.gNl;omega⟩
 ·rcases List.mem_or_eq_of_mem_set hx with hx | hx
  ·exact hN.ok x hx
  ·subst hx;exact ⟨(hN.ok _ hmem).1,(hN.ok _ hmem).2.1,(hN.ok _ hmem).2.2⟩
end
set_option maxRecDepth 100000
theorem info_bool : (Tryz.prog.info? 4).map (fun i=>(i.zero,i.size,i.bytes)) = some (some (.bool false),1,1):=by kernel_rfl
structure RInv (w Wl : World) (gt : Nat) (tG : TypeId) (vN vR : Value) (l : List Int) (wr : World) : Prop where
 out : wr.heap[gt]? = some (.cells #[vN,vR] tG (0,0))
 own : wr.ownsRow Wl.heap.size 3 1 vR l.length (cz l)
 keep : ∀ b,b < Wl.heap.size -> b ≠ gt -> wr.heap[b]? = Wl.heap[b]?
 size : Wl.heap.size <= wr.heap.size
 bel : Below w.heap.size w wr
end Go.Proofs.YticimejfjjmikaaGreatDoor
