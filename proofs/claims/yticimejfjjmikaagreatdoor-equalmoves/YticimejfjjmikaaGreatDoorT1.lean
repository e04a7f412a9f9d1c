import Derived.Test.YticimejfjjmikaaGreatDoorC2
import Derived.Test.YticimejfjjmikaaGreatDoorSG1
import Derived.Test.YticimejfjjmikaaGreatDoorW20
import Derived.Test.YticimejfjjmikaaGreatDoorW36
set_option linter.unusedVariables false
set_option linter.unusedSimpArgs false
namespace Go.Proofs.YticimejfjjmikaaGreatDoor
open Go.RowKit
theorem zwz : ∀ {ls : List (Nd × (Option Addr × Nat × Nat))} {i : Nat} (a : Option Addr) (m c : Nat) (l' : List Int),i < ls.length -> (ncs ls).set (i * 4 + 3) (.slice a m c) = ncs (ls.set i ({ (ls.getD i (default,none,0,0)).1 with kids:=l' },a,m,c))
 | [],_,_,_,_,_,h=>by simp at h
 | x :: ls,0,a,m,c,l',_=>by simp [ncs,nc]
 | x :: ls,i + 1,a,m,c,l',h=>by
  have ih:=zwz (ls:=ls) (i:=i) a m c l' (by simpa using h)
  have e : (i + 1) * 4 + 3 = (nc x).length + (i * 4 + 3):=by simp [nc];omega
  simp only [ncs,List.flatMap_cons,List.set_cons_succ,List.getD_cons_succ] at *
  rw [e,List.set_append_right _ _ (by omega),Nat.add_sub_cancel_left,ih]
structure KI (w Wi : World) (gN : Nat) (cur : Array Value) (i : Nat) (v : Value) (l : List Int) (wz : World) : Prop where
 cells : wz.heap[gN]? = some (.cells (cur.setIfInBounds (i * 4 + 3) v) 54 (0,0))
 gNl : gN < Wi.heap.size
 row : wz.ownsRow Wi.heap.size 3 1 v l.length (cz l)
 keep : ∀ b,b < Wi.heap.size -> b ≠ gN -> wz.heap[b]? = Wi.heap[b]?
 size : Wi.heap.size <= wz.heap.size
 bel : Below w.heap.size w wz
 gw : w.heap.size <= gN
 wi : w.heap.size <= Wi.heap.size
section
variable {w Wi : World} {gN : Nat} {cur : Array Value} {i : Nat} {v : Value} {l : List Int} {wz wy : World}
theorem KI.on_ (h : KI w Wi gN cur i v l wz) (hb : Below wz.heap.size wz wy) : KI w Wi gN cur i v l wy :=
 ⟨(hb.block gN (Nat.lt_of_lt_of_le h.gNl h.size)).trans h.cells,h.gNl,zec h.row hb,fun b h1 h2=>(hb.block b (Nat.lt_of_lt_of_le h1 h.size)).trans (h.keep b h1 h2),Nat.le_trans h.size hb.size,h.bel.trans (hb.mono h.bel.size),h.gw,h.wi⟩
theorem KI.grown (h : KI w Wi gN cur i v l wz) (hg : wz.grownBy wy v.ownBlock) : wy.heap[gN]? = some (.cells (cur.setIfInBounds (i * 4 + 3) v) 54 (0,0)) /\ (∀ b,b < Wi.heap.size -> wy.heap[b]? = wz.heap[b]?):=by
 have hr : ∀ b,b < Wi.heap.size -> some b ≠ v.ownBlock:=fun b hb e=>by have:=(h.row.lt b e.symm).1;omega
 exact ⟨(hg.block gN (Nat.lt_of_lt_of_le h.gNl h.size) (hr gN h.gNl)).trans h.cells,fun b hb=>hg.block b (Nat.lt_of_lt_of_le hb h.size) (hr b hb)⟩
theorem KI.push (h : KI w Wi gN cur i v l wz) (hg : wz.grownBy wy v.ownBlock) {v' : Value} {z : Int} {n : Nat} (ho : wy.ownsRow Wi.heap.size 3 1 v' n (cz (l ++ [z]))) : KI w Wi gN cur i v' (l ++ [z]) (wy.setCell ⟨gN,i * 4 + 3,none⟩ v'):=by
 obtain ⟨h1,h2⟩:=h.grown hg
 have hn : n = (l ++ [z]).length:=by have:=ho.1;rw [qk] at this;omega
 subst hn
 have hs : (wy.setCell ⟨gN,i * 4 + 3,none⟩ v').heap.size = wy.heap.size:=by simp [World.setCell]
 refine ⟨?_,h.gNl,qm ho (fun e=>by have:=(ho.lt gN e).1;have:=h.gNl;omega),fun b hb hbg=>(Below.heap_setCell _ _ _ _ hbg).trans ((h2 b hb).trans (h.keep b hb hbg)),by rw [hs];exact Nat.le_trans h.size hg.size,(h.bel.trans ((Below.refl _ _).grown hg (Nat.le_trans h.wi h.size) (fun k hk=>Nat.le_trans h.wi (h.row.lt k hk).1))).setCell (p:=⟨gN,i * 4 + 3,none⟩) h.gw _,h.gw,h.wi⟩
 have:=zy (i:=i * 4 + 3) h1 v'
 rw [this];simp
theorem KI.nown {base cN : Nat} {ls : List (Nd × (Option Addr × Nat × Nat))} {a : Option Addr} {m c : Nat} (h : KI w Wi gN cur i (.slice a m c) l wz) (hcur : Wi.heap[gN]? = some (.cells cur 54 (0,0))) (hN : NOwn base Wi (.slice (some ⟨gN,0,none⟩) ls.length cN) ls) (hi : i < ls.length) (hb : ∀ z∈l,I64 z) (hbase : base <= Wi.heap.size) :
  NOwn base wz (.slice (some ⟨gN,0,none⟩) ls.length cN) (ls.set i ({ (ls.getD i (default,none,0,0)).1 with kids:=l },a,m,c)):=by
 have hmem : ls.getD i (default,none,0,0)∈ls:=by rw [List.getD_eq_getElem?_getD,List.getElem?_eq_getElem hi];exact List.getElem_mem hi
 obtain ⟨ao,cap,hv,hI⟩:=vi h.row hb
 cases hv
 refine ⟨?_,fun x hx=>?_,fun x hx=>?_⟩
 ·rw [List.length_set]
  rcases hN.own.2 with ⟨h0,_⟩ | ⟨g',cap',cur',h1,h2,h3,h4,h5,h6,h7⟩
  ·cases h0
  ·cases h1
   rw [hcur] at h3
   cases h3
   refine ⟨by rw [zhh,List.length_set],.inr ⟨gN,cN,_,rfl,h2,h.cells,h4,h5,by rw [Array.size_setIfInBounds];exact h6,?_⟩⟩
   rw [<- zwz a l.length c l hi,<- h7]
   rw [Array.toList_setIfInBounds]
   rw [List.take_set]
 ·rcases List.mem_or_eq_of_mem_set hx with hx | hx
  ·obtain ⟨q1, q2⟩ := hN.kids x hx
   refine ⟨q1.frame h.size (fun ad had=>?_),fun ad had=>?_⟩
   ·obtain ⟨r1, r2, r3⟩ := q2 ad had
    exact h.keep _ r2 (fun e=>r3 (by rw [e];rfl))
   ·obtain ⟨r1, r2, r3⟩ := q2 ad had
    exact ⟨r1,Nat.lt_of_lt_of_le r2 h.size,r3⟩
  ·subst hx
   refine ⟨hI,fun ad had=>?_⟩
   have had' : a = some ad:=had
   have hl:=h.row.lt ad.block (by rw [had'];rfl)
   exact ⟨by omega,hl.2,fun e=>by have e' : gN = ad.block:=Option.some.inj e;have:=h.gNl;omega⟩
 ·rcases List.mem_or_eq_of_mem_set hx with hx | hx
  ·exact hN.ok x hx
  ·subst hx;exact ⟨(hN.ok _ hmem).1,(hN.ok _ hmem).2.1,(hN.ok _ hmem).2.2⟩
end
set_option maxRecDepth 100000
structure RInv (w Wl : World) (gt : Nat) (tG : TypeId) (vN vR : Value) (l : List Int) (wr : World) : Prop where
 out : wr.heap[gt]? = some (.cells #[vN,vR] tG (0,0))
 own : wr.ownsRow Wl.heap.size 3 1 vR l.length (cz l)
 keep : ∀ b,b < Wl.heap.size -> b ≠ gt -> wr.heap[b]? = Wl.heap[b]?
 size : Wl.heap.size <= wr.heap.size
 bel : Below w.heap.size w wr
end Go.Proofs.YticimejfjjmikaaGreatDoor
