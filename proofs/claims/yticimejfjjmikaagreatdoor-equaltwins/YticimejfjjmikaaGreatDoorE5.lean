import Derived.Test.YticimejfjjmikaaGreatDoorE4
import Derived.Test.YticimejfjjmikaaGreatDoorC2
set_option linter.unusedVariables false
set_option linter.unusedSimpArgs false
set_option maxRecDepth 100000
namespace Go.Proofs.YticimejfjjmikaaGreatDoor
open Go.RowKit
structure JR (w : World) (base bb : Nat) (go gr gc : Nat) (vO vR vC vS : Value) (lo lc rest : List (Nd × (Option Addr × Nat × Nat))) (rs rs' : List Int) (wr : World) : Prop where
 gob : wr.heap[go]? = some (.cells #[vO,vR] 34 (0,0))
 grb : wr.heap[gr]? = some (.cells #[.slice none 0 0,.slice none 0 0] 34 (0,0))
 gcb : wr.heap[gc]? = some (.cells #[vC,vS] 34 (0,0))
 out : NOwn base wr vO lo
 cns : wr.ownsRow bb 54 4 vC lc.length (ncs lc)
 rows : zdi bb wr rest
 ra : wr.ownsRow base 3 1 vR rs.length (cz rs)
 rb : wr.ownsRow bb 3 1 vS rs'.length (cz rs')
 bel : Below w.heap.size w wr
 grl : gr < base
 wgr : w.heap.size <= gr
 gol : go < bb
 wgo : w.heap.size <= go
 gog : gr ≠ go
 bbl : base <= bb
 gcl : bb <= gc
 o1 : vO.ownBlock ≠ some go /\ vO.ownBlock ≠ some gc
 o2 : ∀ b,vO.ownBlock = some b -> vR.ownBlock ≠ some b /\ vC.ownBlock ≠ some b /\ vS.ownBlock ≠ some b
 o3 : ∀ x∈rest,∀ ad,x.2.1 = some ad -> vO.ownBlock ≠ some ad.block /\ ad.block < gc /\ vC.ownBlock ≠ some ad.block /\ vS.ownBlock ≠ some ad.block
 r1 : ∀ b,vR.ownBlock = some b -> b < go
 c1 : ∀ b,vC.ownBlock = some b -> b < gc
 s1 : ∀ b,vS.ownBlock = some b -> b < gc /\ vC.ownBlock ≠ some b
 k1 : ∀ x∈rest,∀ ad,x.2.1 = some ad -> ∀ y∈lo,∀ q,y.2.1 = some q -> q.block ≠ ad.block
 q1 : ∀ y∈lo,∀ q,y.2.1 = some q -> q.block ≠ go /\ q.block < gc /\ vR.ownBlock ≠ some q.block
def ko (n : Int) (l : List Int) : List Int:=l.map (fun z=>wrap64 (z + n))
def zdm (n : Int) (d : Nd) : Nd:={ d with kids:=ko n d.kids }
theorem zhh (z : Int) : I64 (wrap64 z):=by unfold I64 wrap64;omega
theorem zwj {z : Int} (h : I64 z) : wrap64 z = z:=by unfold I64 at h;unfold wrap64;omega
theorem znh (k : Int) {l : List Int} {m : Nat} (h : m < l.length) : ko k (l.take (m + 1)) = ko k (l.take m) ++ [wrap64 (l.getD m 0 + k)]:=by
 unfold ko
 rw [List.take_succ_eq_append_getElem h,List.map_append,List.getD_eq_getElem?_getD,List.getElem?_eq_getElem h];rfl
theorem zrm {n : Int} {l : List Int} {k : Nat} (hk : k < l.length) : (cz (ko n (l.take k) ++ l.drop k)).set k (.int .i64 (wrap64 (l.getD k 0 + n))) = cz (ko n (l.take (k + 1)) ++ l.drop (k + 1)):=by
 rw [znh n hk]
 have hl : (ko n (l.take k)).length = k:=by unfold ko;rw [List.length_map,List.length_take];omega
 have hd : l.drop k = l.getD k 0 :: l.drop (k + 1):=by
  rw [List.drop_eq_getElem_cons hk,List.getD_eq_getElem?_getD,List.getElem?_eq_getElem hk];rfl
 rw [hd]
 unfold cz
 simp only [List.map_append,List.map_cons]
 rw [List.set_append,if_neg (by simp [hl])]
 simp [hl]
theorem zwk {n : Int} {l : List Int} {k : Nat} (hk : k < l.length) : (cz (ko n (l.take k) ++ l.drop k))[k]? = some (.int .i64 (l.getD k 0)):=by
 have hl : (ko n (l.take k)).length = k:=by unfold ko;rw [List.length_map,List.length_take];omega
 have hd : l.drop k = l.getD k 0 :: l.drop (k + 1):=by
  rw [List.drop_eq_getElem_cons hk,List.getD_eq_getElem?_getD,List.getElem?_eq_getElem hk];rfl
 rw [hd]
 unfold cz
 simp only [List.map_append,List.map_cons]
 rw [List.getElem?_append_right (by simp [hl])]
 simp [hl]
def mvx (n : Int) (x : Nd × (Option Addr × Nat × Nat)) : Nd × (Option Addr × Nat × Nat):=(zdm n x.1,x.2)
theorem JR.node {w : World} {base bb go gr gc : Nat} {vO vR vC vS : Value} {lo lc rest : List (Nd × (Option Addr × Nat × Nat))} {rs rs' : List Int} {wr : World} (h : JR w base bb go gr gc vO vR vC vS lo lc rest rs rs' wr) {m : Nat} (hm : m < lc.length) {x : Nd × (Option Addr × Nat × Nat)} (hx : x = lc.getD m (default,none,0,0)) :
  ∃ g cap,vC = .slice (some ⟨g,0,none⟩) lc.length cap /\ lc.length <= cap /\ cap <= maxLen /\ wr.cell? ⟨g,m * 4,none⟩ = some (.int .i64 x.1.kind) /\ wr.cell? ⟨g,m * 4 + 1,none⟩ = some (.int .i64 x.1.num) /\ wr.cell? ⟨g,m * 4 + 2,none⟩ = some (.string x.1.text) /\ wr.cell? ⟨g,m * 4 + 3,none⟩ = some (.slice x.2.1 x.2.2.1 x.2.2.2):=by
 rcases h.cns.2 with ⟨h0,h1⟩ | ⟨g,cap,cur,h1,h2,h3,h4,h5,h6,h7⟩
 ·omega
 ·have key : ∀ j, j < 4 -> wr.cell? ⟨g, m * 4 + j, none⟩ = (nc x)[j]? := fun j hj => by
   rw [za h3,hx,<- zen hm hj,<- h7,List.getElem?_take,if_pos (by omega)];simp
  exact ⟨g,cap,h1,h4,h5,key 0 (by omega),key 1 (by omega),key 2 (by omega),key 3 (by omega)⟩
structure KW (W : World) (bb : Nat) (n : Int) (l : List Int) (ak : Option Addr) (nk ck : Nat) (k : Nat) (wz : World) : Prop where
 row : wz.ownsRow bb 3 1 (.slice ak nk ck) nk (cz (ko n (l.take k) ++ l.drop k))
 keep : ∀ b,(Value.slice ak nk ck).ownBlock ≠ some b -> wz.heap[b]? = W.heap[b]?
 size : wz.heap.size = W.heap.size
 bel : Below bb W wz
theorem KW.at_ {W : World} {bb : Nat} {n : Int} {l : List Int} {ak : Option Addr} {nk ck k : Nat} {wz : World} (h : KW W bb n l ak nk ck k wz) (hk : k < nk) (hl : l.length = nk) :
  ∃ g,ak = some ⟨g,0,none⟩ /\ bb <= g /\ nk <= ck /\ ck <= maxLen /\ wz.frozen? ⟨g,k,none⟩ = false /\ wz.cell? ⟨g,k,none⟩ = some (.int .i64 (l.getD k 0)) /\ KW W bb n l ak nk ck (k + 1) (wz.setCell ⟨g,k,none⟩ (.int .i64 (wrap64 (l.getD k 0 + n)))):=by
 have hrow:=h.row
 rcases h.row.2 with ⟨h0,h1⟩ | ⟨g,cap,cur,h1,h2,h3,h4,h5,h6,h7⟩
 ·omega
 ·cases h1
  obtain ⟨q1,q2⟩:=ziw hrow hk
  refine ⟨g,rfl,h2,h4,h5,q1,q2.trans (zwk (by omega)),?_,fun b hb=>?_,by simp [World.setCell,h.size],h.bel.setCell (p:=⟨g,k,none⟩) h2 _⟩
  ·rw [<- zrm (by omega)];exact zzt hrow _
  ·exact (Below.heap_setCell _ _ _ _ (by intro e;exact hb (by rw [e];rfl))).trans (h.keep b hb)
theorem zlm {l : List Int} {m : Nat} (hm : m < l.length) : l.getD m 0∈l:=by
 have : l.getD m 0 = l[m]:=by simp [List.getD_eq_getElem?_getD,List.getElem?_eq_getElem hm]
 rw [this];exact List.getElem_mem _
theorem xb {w w' : World} {base : Nat} {e : TypeId} {k : Nat} {v : Value} {n : Nat} {xs : List Value} (h : w.ownsRow base e k v n xs) (hb : ∀ b,v.ownBlock = some b -> w'.heap[b]? = w.heap[b]?) : w'.ownsRow base e k v n xs:=by
 refine ⟨h.1,?_⟩
 rcases h.2 with h0 | ⟨g,cap,cur,h1,h2,h3,h4⟩
 ·exact .inl h0
 ·exact .inr ⟨g,cap,cur,h1,h2,(hb g (by rw [h1];rfl)).trans h3,h4⟩
section
variable {w : World} {base bb go gr gc : Nat} {vO vR vC vS : Value} {lo lc rest : List (Nd × (Option Addr × Nat × Nat))} {rs rs' : List Int} {wr wy : World}
theorem JR.far (h : JR w base bb go gr gc vO vR vC vS lo lc rest rs rs' wr) {P : Nat -> Prop} (hP : ∀ b,P b -> b < wr.heap.size -> wy.heap[b]? = wr.heap[b]?) (hs : wr.heap.size <= wy.heap.size) (hb : Below w.heap.size w wy)
  (p1 : P go /\ P gr /\ P gc) (p2 : ∀ b,vO.ownBlock = some b \/ vR.ownBlock = some b \/ vC.ownBlock = some b \/ vS.ownBlock = some b -> P b) (p3 : ∀ x,x∈lo \/ x∈rest -> ∀ ad,x.2.1 = some ad -> P ad.block) :
  JR w base bb go gr gc vO vR vC vS lo lc rest rs rs' wy:=by
 have hl : ∀ {b : Nat} {o : Obj},wr.heap[b]? = some o -> b < wr.heap.size:=fun h=>(Array.getElem?_eq_some_iff.1 h).1
 refine { h with gob:=(hP _ p1.1 (hl h.gob)).trans h.gob,grb:=(hP _ p1.2.1 (hl h.grb)).trans h.grb,gcb:=(hP _ p1.2.2 (hl h.gcb)).trans h.gcb,out:=?_,cns:=?_,rows:=?_,ra:=?_,rb:=?_,bel:=hb }
 ·refine ⟨xb h.out.own (fun b e => hP b (p2 b (.inl e)) (h.out.own.lt b e).2), fun x hx => ⟨(h.out.kids x hx).1.frame hs (fun ad had => hP _ (p3 x (.inl hx) ad had) ((h.out.kids x hx).2 ad had).2.1), fun ad had => ?_⟩, h.out.ok⟩
  obtain ⟨q1,q2,q3⟩:=(h.out.kids x hx).2 ad had
  exact ⟨q1,Nat.lt_of_lt_of_le q2 hs,q3⟩
 ·exact xb h.cns (fun b e=>hP b (p2 b (.inr (.inr (.inl e)))) (h.cns.lt b e).2)
 ·refine h.rows.frame (fun x hx b e => ?_)
  have hlt:=((h.rows.own x hx).lt b e).2
  obtain ⟨ad,had,rfl⟩ : ∃ ad : Addr,x.2.1 = some ad /\ ad.block = b:=by
   cases e' : x.2.1 with
   | none=>rw [e'] at e;cases e
   | some ad=>rw [e'] at e;exact ⟨ad,rfl,by injection e⟩
  exact hP _ (p3 x (.inr hx) ad had) hlt
 ·exact je h.ra (fun b e=>hP b (p2 b (.inr (.inl e))) (h.ra.lt b e).2)
 ·exact je h.rb (fun b e=>hP b (p2 b (.inr (.inr (.inr e)))) (h.rb.lt b e).2)
theorem JR.on (h : JR w base bb go gr gc vO vR vC vS lo lc rest rs rs' wr) (hb : Below wr.heap.size wr wy) : JR w base bb go gr gc vO vR vC vS lo lc rest rs rs' wy :=
 h.far (P:=fun _=>True) (fun b _ hl=>hb.block b hl) hb.size (h.bel.trans (hb.mono h.bel.size)) ⟨trivial,trivial,trivial⟩ (fun _ _=>trivial) (fun _ _ _ _=>trivial)
theorem JR.moved {x : Nd × (Option Addr × Nat × Nat)} {n : Int} (h : JR w base bb go gr gc vO vR vC vS lo lc (x :: rest) rs rs' wr) {W6 wz : World} (hb : Below wr.heap.size wr W6) (hK : KW W6 bb n x.1.kids x.2.1 x.2.2.1 x.2.2.2 x.2.2.1 wz) : JR w base bb go gr gc vO vR vC vS lo lc rest rs rs' wz:=by
 have h6:=h.on hb
 have hr:=h.rows.own x List.mem_cons_self
 have hx : ∀ b,(Value.slice x.2.1 x.2.2.1 x.2.2.2).ownBlock = some b -> ∃ ad : Addr,x.2.1 = some ad /\ ad.block = b:=fun b e=>by
  cases e' : x.2.1 with
  | none=>rw [e'] at e;cases e
  | some ad=>rw [e'] at e;exact ⟨ad,rfl,by injection e⟩
 have h7 : JR w base bb go gr gc vO vR vC vS lo lc rest rs rs' W6:={ h6 with rows:=⟨fun y hy=>h6.rows.own y (List.mem_cons_of_mem _ hy),(List.pairwise_cons.1 h6.rows.apart).2⟩,o3:=fun y hy=>h6.o3 y (List.mem_cons_of_mem _ hy),k1:=fun y hy=>h6.k1 y (List.mem_cons_of_mem _ hy) }
 refine h7.far (P:=fun b=>(Value.slice x.2.1 x.2.2.1 x.2.2.2).ownBlock ≠ some b) (fun b hb' _=>hK.keep b hb') (by rw [hK.size];exact Nat.le_refl _) ?_ ⟨?_,?_,?_⟩ ?_ ?_
 ·exact h6.bel.trans (hK.bel.mono (by have:=h.wgo;have:=h.gol;omega))
 ·intro e;have:=(hr.lt _ e).1;have:=h.gol;omega
 ·intro e;have:=(hr.lt _ e).1;have:=h.grl;have:=h.bbl;omega
 ·intro e;obtain ⟨ad,h1,h2⟩:=hx _ e;have:=(h.o3 x List.mem_cons_self ad h1).2.1;omega
 ·intro b hb' e
  obtain ⟨ad,h1,rfl⟩:=hx _ e
  obtain ⟨q1,q2,q3,q4⟩:=h.o3 x List.mem_cons_self ad h1
  rcases hb' with e' | e' | e' | e'
  ·exact q1 e'
  ·have:=h.r1 _ e';have:=(hr.lt _ e).1;have:=h.gol;omega
  ·exact q3 e'
  ·exact q4 e'
 ·intro y hy ad had e
  obtain ⟨ad',h1,h2⟩:=hx _ e
  rcases hy with hy | hy
  ·exact h.k1 x List.mem_cons_self ad' h1 y hy ad had h2.symm
  ·exact (List.pairwise_cons.1 h.rows.apart).1 y hy ad' ad h1 had h2
theorem JR.push {x : Nd × (Option Addr × Nat × Nat)} (h : JR w base bb go gr gc vO vR vC vS lo lc rest rs rs' wr) {w6 : World} {g cap : Nat}
  (ho : w6.ownsRow base 54 4 (.slice (some ⟨g,0,none⟩) (lo.length + 1) cap) (lo.length + 1) (ncs lo ++ nc x)) (hg : wr.grownBy w6 vO.ownBlock) (hl : vO.ownBlock = some g \/ g = wr.heap.size) (hd : NdOk x.1) (hk : IRow wr x.2.1 x.2.2.1 x.2.2.2 x.1.kids)
  (hx : ∀ ad,x.2.1 = some ad -> base <= ad.block /\ ad.block < gc /\ vO.ownBlock ≠ some ad.block /\ ad.block ≠ go /\ vR.ownBlock ≠ some ad.block /\ ∀ y∈rest,∀ q,y.2.1 = some q -> ad.block ≠ q.block) :
  JR w base bb go gr gc (.slice (some ⟨g,0,none⟩) (lo.length + 1) cap) vR vC vS (lo ++ [x]) lc rest rs rs' (w6.setCell ⟨go,0,none⟩ (.slice (some ⟨g,0,none⟩) (lo.length + 1) cap)):=by
 have hlt : ∀ {b : Nat} {o : Obj},wr.heap[b]? = some o -> b < wr.heap.size:=fun h=>(Array.getElem?_eq_some_iff.1 h).1
 have hgol:=hlt h.gob
 have hgcl:=hlt h.gcb
 have z1:=h.gol
 have z2:=h.gcl
 have z3:=h.grl
 have z4:=h.wgr
 have z5:=h.wgo
 have z6:=h.bbl
 have key : ∀ b,b < wr.heap.size -> vO.ownBlock ≠ some b -> b ≠ go -> (w6.setCell ⟨go,0,none⟩ (.slice (some ⟨g,0,none⟩) (lo.length + 1) cap)).heap[b]? = wr.heap[b]?:=fun b h1 h2 h3=>(Below.heap_setCell _ _ _ _ h3).trans (hg.block b h1 (fun e=>h2 e.symm))
 have hgn : ∀ b,b < wr.heap.size -> vO.ownBlock ≠ some b -> (Value.slice (some ⟨g,0,none⟩) (lo.length + 1) cap).ownBlock ≠ some b:=fun b h1 h2 e=>by
  have e' : g = b:=Option.some.inj e
  rcases hl with h' | h'
  ·exact h2 (by rw [h',e'])
  ·omega
 have hgo6:=(hg.block go hgol (fun e=>h.o1.1 e.symm)).trans h.gob
 have hxl : ∀ ad,x.2.1 = some ad -> ad.block < wr.heap.size:=fun ad had=>by have:=(hx ad had).2.1;omega
 have hon : ∀ {e : TypeId} {b0 k : Nat} {v : Value} {n : Nat} {xs : List Value},wr.ownsRow b0 e k v n xs -> (∀ b,vO.ownBlock = some b -> v.ownBlock ≠ some b) -> ∀ b,v.ownBlock = some b -> vO.ownBlock ≠ some b:=fun _ h2 b h3 h4=>h2 b h4 h3
 refine ⟨?_,?_,?_,?_,?_,?_,?_,?_,?_,h.grl,h.wgr,h.gol,h.wgo,h.gog,h.bbl,h.gcl,?_,?_,?_,h.r1,h.c1,h.s1,?_,?_⟩
 ·have:=zq (i:=0) hgo6 (.slice (some ⟨g,0,none⟩) (lo.length + 1) cap);rw [this];rfl
 ·exact (key gr (hlt h.grb) (fun e=>by have:=(h.out.own.lt _ e).1;omega) h.gog).trans h.grb
 ·exact (key gc hgcl h.o1.2 (by omega)).trans h.gcb
 ·refine h.out.pushed_at hgol h.o1.1 ho hg hl hd hk (fun ad had => ⟨(hx ad had).1, hxl ad had, (hx ad had).2.2.1⟩) (fun y hy ad had => ?_)
  rcases List.mem_append.1 hy with hy | hy
  ·exact (h.q1 y hy ad had).1
  ·obtain rfl := List.mem_singleton.1 hy
   exact (hx ad had).2.2.2.1
 ·exact xb h.cns (fun b e=>key b (h.cns.lt b e).2 (hon h.cns (fun b e=>(h.o2 b e).2.1) b e) (by have:=(h.cns.lt b e).1;omega))
 ·refine h.rows.frame (fun y hy b e => ?_)
  have hr:=(h.rows.own y hy).lt b e
  obtain ⟨ad,had,rfl⟩ : ∃ ad : Addr,y.2.1 = some ad /\ ad.block = b:=by
   cases e' : y.2.1 with
   | none=>rw [e'] at e;cases e
   | some ad=>rw [e'] at e;exact ⟨ad,rfl,by injection e⟩
  exact key _ hr.2 (h.o3 y hy ad had).1 (by omega)
 ·exact xb h.ra (fun b e=>key b (h.ra.lt b e).2 (hon h.ra (fun b e=>(h.o2 b e).1) b e) (by have:=h.r1 b e;omega))
 ·exact xb h.rb (fun b e=>key b (h.rb.lt b e).2 (hon h.rb (fun b e=>(h.o2 b e).2.2) b e) (by have:=(h.rb.lt b e).1;omega))
 ·exact (h.bel.grown hg h.bel.size (fun k hk=>by have:=(h.out.own.lt k hk).1;omega)).setCell (p:=⟨go,0,none⟩) h.wgo _
 ·exact ⟨hgn go hgol h.o1.1,hgn gc hgcl h.o1.2⟩
 ·intro b e
  exact ⟨fun e'=>hgn b (h.ra.lt b e').2 (hon h.ra (fun b e=>(h.o2 b e).1) b e') e,fun e'=>hgn b (h.cns.lt b e').2 (hon h.cns (fun b e=>(h.o2 b e).2.1) b e') e,fun e'=>hgn b (h.rb.lt b e').2 (hon h.rb (fun b e=>(h.o2 b e).2.2) b e') e⟩
 ·intro y hy ad had
  obtain ⟨q1,q2,q3,q4⟩:=h.o3 y hy ad had
  exact ⟨hgn _ (by omega) q1,q2,q3,q4⟩
 ·intro y hy ad had z hz q hq
  rcases List.mem_append.1 hz with hz | hz
  ·exact h.k1 y hy ad had z hz q hq
  ·obtain rfl := List.mem_singleton.1 hz
   exact (hx q hq).2.2.2.2.2 y hy ad had
 ·intro z hz q hq
  rcases List.mem_append.1 hz with hz | hz
  ·exact h.q1 z hz q hq
  ·obtain rfl := List.mem_singleton.1 hz
   obtain ⟨u1,u2,u3,u4,u5,u6⟩:=hx q hq
   exact ⟨u4,u2,u5⟩
end
section
variable {P : Program} {w : World} {ops : Array Oper} {o : Oper} {a : Act} {K : Act -> World -> Prop} {Q : Exit -> Act -> World -> Prop} {E : Prop}
theorem zgj1 (dst : Option Nat) (hdst : o.dst = dst) (hgd : o.guard = none) (s x : Operand) (t : TypeId) (ho : o.op = .call { callee:=.builtin .append,args:=#[s,x],argTypes:=#[t,t] })
  (base : Nat) (e : TypeId) (ht : P.underlying t = some (.slice e)) (hi : (P.info? e).map (fun i=>(i.zero,i.size,i.bytes)) = some (some (.int .i64 0),1,8))
  (v : Value) (n : Nat) (l : List Int) (hs : a.eval s = v) (hown : w.ownsRow base e 1 v n (cz l))
  (g0 c : Nat) (d : Int) (hx : a.eval x = .slice (some ⟨g0,0,none⟩) 1 c) (hd : w.cell? ⟨g0,0,none⟩ = some (.int .i64 d)) (hsm : n <= 1000000) (hbase : base <= w.heap.size)
  (h : ∀ g cap w',w'.ownsRow base e 1 (.slice (some ⟨g,0,none⟩) (n + 1) cap) (n + 1) (cz (l ++ [d])) -> w.grownBy w' v.ownBlock -> (v.ownBlock = some g \/ g = w.heap.size) -> g < w'.heap.size -> K (a.put dst (.slice (some ⟨g,0,none⟩) (n + 1) cap)) w') :
  if Region.wanted o (yielded ops a.tmps) = true then Oper.wp P o a w K Q else E:=by
 subst hdst
 have hw : Region.wanted o (yielded ops a.tmps) = true:=by simp [Region.wanted,hgd]
 rw [if_pos hw]
 obtain ⟨i0,hi0,hz0,hz1,hz2⟩:=info_parts hi
 refine wp_append_lies w s x t ho base e i0 (.int .i64 0) 1 8 ht hi0 hz0 hz1 hz2 rfl (by decide) v n (cz l) hs hown ⟨g0,0,none⟩ 1 c [.int .i64 d] hx rfl ?_ ?_ (by decide) (by unfold maxLen;omega) (by omega) hbase w.heap.size rfl ?_
 ·intro j u hj
  match j,hj with
  | 0,hj=>simp at hj;subst hj;simpa [Addr.add] using hd
 ·intro u hu;simp at hu;subst hu;rfl
 ·intro g cap w' h1 h2 h3 h4
  refine h g cap w' ?_ h2 h3 h4
  rw [zca];exact h1
end
structure RJ (w Wl : World) (base go : Nat) (vO vR0 vR : Value) (l : List Int) (wr : World) : Prop where
 out : wr.heap[go]? = some (.cells #[vO,vR] 34 (0,0))
 own : wr.ownsRow base 3 1 vR l.length (cz l)
 keep : ∀ b,b < Wl.heap.size -> b ≠ go -> vR0.ownBlock ≠ some b -> wr.heap[b]? = Wl.heap[b]?
 loc : ∀ b,vR.ownBlock = some b -> vR0.ownBlock = some b \/ Wl.heap.size <= b
 size : Wl.heap.size <= wr.heap.size
 bel : Below w.heap.size w wr
theorem RJ.push {w Wl wr wx w5 : World} {base go g cap : Nat} {vO vR0 vR : Value} {l : List Int} {z : Int} (h : RJ w Wl base go vO vR0 vR l wr) (hb : Below wr.heap.size wr wx) (hgo : w.heap.size <= go) (hgl : go < Wl.heap.size) (hgn : vR0.ownBlock ≠ some go) (hwb : w.heap.size <= base)
  (ho : w5.ownsRow base 3 1 (.slice (some ⟨g,0,none⟩) (l.length + 1) cap) (l.length + 1) (cz (l ++ [z]))) (hg : wx.grownBy w5 vR.ownBlock) (hl : vR.ownBlock = some g \/ g = wx.heap.size) :
  w5.heap[go]? = some (.cells #[vO,vR] 34 (0,0)) /\ (∀ b,b < Wl.heap.size -> b ≠ go -> vR0.ownBlock ≠ some b -> w5.heap[b]? = Wl.heap[b]?) /\ RJ w Wl base go vO vR0 (.slice (some ⟨g,0,none⟩) (l.length + 1) cap) (l ++ [z]) (w5.setCell ⟨go,1,none⟩ (.slice (some ⟨g,0,none⟩) (l.length + 1) cap)):=by
 have hs:=h.size
 have hs2:=hb.size
 have hvn : ∀ b,b < Wl.heap.size -> vR0.ownBlock ≠ some b -> vR.ownBlock ≠ some b:=fun b h1 h2 e=>by
  rcases h.loc b e with h' | h'
  ·exact h2 h'
  ·omega
 have key : ∀ b,b < Wl.heap.size -> vR0.ownBlock ≠ some b -> w5.heap[b]? = wr.heap[b]?:=fun b h1 h2=>(hg.block b (by omega) (fun e=>hvn b h1 h2 e.symm)).trans (hb.block b (by omega))
 have hgo5:=(key go hgl hgn).trans h.out
 have hk5 : ∀ b,b < Wl.heap.size -> b ≠ go -> vR0.ownBlock ≠ some b -> w5.heap[b]? = Wl.heap[b]?:=fun b h1 h2 h3=>(key b h1 h3).trans (h.keep b h1 h2 h3)
 have hgne : g ≠ go:=by
  rcases hl with h' | h'
  ·intro e;subst e;exact hvn _ hgl hgn h'
  ·omega
 refine ⟨hgo5,hk5,?_,?_,fun b h1 h2 h3=>(Below.heap_setCell _ _ _ _ h2).trans (hk5 b h1 h2 h3),fun b e=>?_,?_,?_⟩
 ·have:=zq (i:=1) hgo5 (.slice (some ⟨g,0,none⟩) (l.length + 1) cap);rw [this];rfl
 ·rw [List.length_append, List.length_singleton]
  exact je ho (fun b e=>Below.heap_setCell _ _ _ _ (by have e' : g = b:=Option.some.inj e;show b ≠ go;omega))
 ·have e' : g = b := Option.some.inj e
  subst e'
  rcases hl with h' | h'
  ·exact h.loc _ h'
  ·right;omega
 ·have:=hg.size;simp [World.setCell];omega
 ·refine Below.setCell (p := ⟨go, 1, none⟩) ?_ hgo _
  exact (h.bel.trans (hb.mono h.bel.size)).grown hg (Nat.le_trans h.bel.size hb.size) (fun k hk=>Nat.le_trans hwb (h.own.lt k hk).1)
structure QJ (W2 : World) (vR : Value) (z : Int) (k : Bool) (al : Bool) (t1 t2 : Value) (wx : World) : Prop where
 bel : Below W2.heap.size W2 wx
 i0 : al = true -> t1 = vR
 i1 : k = true -> ∃ g,t2 = .slice (some ⟨g,0,none⟩) 1 1 /\ wx.heap[g]? = some (.cells #[.int .i64 z] 3 (0,0))
section
variable {W2 wx wy : World} {vR : Value} {z : Int} {k al : Bool} {t1 t2 : Value}
theorem QJ.mk0 (hb : Below W2.heap.size W2 wx) : QJ W2 vR z false false t1 t2 wx:=⟨hb,fun e=>(by cases e),fun e=>(by cases e)⟩
theorem QJ.load (h : QJ W2 vR z k false t1 t2 wx) : QJ W2 vR z k true vR t2 wx:=⟨h.bel,fun _=>rfl,h.i1⟩
theorem QJ.build (h : QJ W2 vR z false al t1 t2 wx) : QJ W2 vR z true al t1 (.slice (some ⟨wx.heap.size,0,none⟩) 1 1) (wx.alloc (.cells #[.int .i64 z] 3)) :=
 ⟨Bt h.bel (Ba _ _),h.i0,fun _=>⟨_,rfl,ze _ _ _⟩⟩
end
def HJb (gb b o : Nat) (v : Value) (z : Int) (wx : World) : Prop:=wx.cell? ⟨gb,1,none⟩ = some v /\ wx.cell? ⟨b,o,none⟩ = some (.int .i64 z)
theorem HJb.on {gb b o : Nat} {v : Value} {z : Int} {wx wy : World} (h : HJb gb b o v z wx) (hb : Below wx.heap.size wx wy) : HJb gb b o v z wy :=
 ⟨(hb.cell (p:=⟨gb,1,none⟩) (kf h.1)).trans h.1,(hb.cell (p:=⟨b,o,none⟩) (kf h.2)).trans h.2⟩
theorem HJb.far {gb b o : Nat} {v : Value} {z : Int} {wx wy : World} (h : HJb gb b o v z wx) (h1 : wy.heap[gb]? = wx.heap[gb]?) (h2 : wy.heap[b]? = wx.heap[b]?) : HJb gb b o v z wy :=
 ⟨(World.cell?_of_block (a:=⟨gb,1,none⟩) h1).trans h.1,(World.cell?_of_block (a:=⟨b,o,none⟩) h2).trans h.2⟩
def Lqj (s : Bool × Bool) : Array Bool:=#[true,s.2,true,true,true,true,true,true,true,s.1,false,false,false]
def Mqj (s : Bool × Bool) : Nat:=(if s.1 then 0 else 1) + (if s.2 then 0 else 1)
theorem NOwn.away {base : Nat} {w w' : World} {v : Value} {l : List (Nd × (Option Addr × Nat × Nat))} (h : NOwn base w v l) (hs : w.heap.size <= w'.heap.size) (h1 : ∀ b,v.ownBlock = some b -> w'.heap[b]? = w.heap[b]?) (h2 : ∀ x∈l,∀ ad,x.2.1 = some ad -> w'.heap[ad.block]? = w.heap[ad.block]?) : NOwn base w' v l:=by
 refine ⟨xb h.own h1,fun x hx=>⟨(h.kids x hx).1.frame hs (fun ad had=>h2 x hx ad had),fun ad had=>?_⟩,h.ok⟩
 obtain ⟨q1,q2,q3⟩:=(h.kids x hx).2 ad had
 exact ⟨q1,Nat.lt_of_lt_of_le q2 hs,q3⟩
def qw (a b : List Nd) : List Nd:=a ++ b.map (zdm a.length)
theorem zni {ls ls' : List (Nd × (Option Addr × Nat × Nat))} {ns ns' : List Nd} {nn : Nat} (h1 : ls.map Prod.fst = ns) (h2 : ls'.map Prod.fst = ns') (hn : ns.length = nn) : (ls ++ ls'.map (mvx nn)).map Prod.fst = qw ns ns':=by
 rw [List.map_append,h1,List.map_map]
 have e : (Prod.fst ∘ mvx (nn : Int)) = (zdm (nn : Int) ∘ Prod.fst):=rfl
 rw [e,<- List.map_map,h2]
 unfold qw
 rw [hn]
set_option maxHeartbeats 8000000 in
theorem zrn (an ar : Option Addr) (nn cn nr cr : Nat) (ns : List Nd) (rs : List Int) (an' ar' : Option Addr) (nn' cn' nr' cr' : Nat) (ns' : List Nd) (rs' : List Int) (w : World) (G : GIs w an nn cn ar nr cr ns rs) (G' : GIs w an' nn' cn' ar' nr' cr' ns' rs') (hR : ∀ d∈ns,d.kids.length <= 1000) (hR' : ∀ d∈ns',d.kids.length <= 1000) (hn : nn <= 2500) (hnr : nr <= 2500) (hn' : nn' <= 2500) (hnr' : nr' <= 2500) :
  Calls Tryz.prog 24 #[GVal an nn cn ar nr cr,GVal an' nn' cn' ar' nr' cr'] w fun e w'=>∃ a1 n1 c1 a2 n2 c2,e = .returned (GVal a1 n1 c1 a2 n2 c2) /\ GIs w' a1 n1 c1 a2 n2 c2 (qw ns ns') (rs ++ rs'.map (fun z=>wrap64 (z + (ns.length : Int)))) /\ Below w.heap.size w w':=by
 have HG:=hid G
 have HG':=hid G'
 have HR:=hid hR
 have HR':=hid hR'
 have hn1:=G.nodes.fits
 have hn2:=G.nodes.most
 have hlen:=G.nodes.len
 have hlen':=G'.nodes.len
 have hrl:=G.roots.len
 have hrl':=G'.roots.len
 unfold maxLen at hn2
 unfold GVal
 clear G G' hR hR'
 go_enter Tryz.func24,Tryz.ntmps24
 go_wp2_with fail
 have bA : Below w.heap.size w (yu w [(.cells #[.slice an nn cn,.slice ar nr cr] 34),(.cells #[.slice an' nn' cn',.slice ar' nr' cr'] 34),(.cells #[.slice none 0 0,.slice none 0 0] 34)]):=qd _ _
 have x0 : (yu w [(.cells #[.slice an nn cn,.slice ar nr cr] 34),(.cells #[.slice an' nn' cn',.slice ar' nr' cr'] 34),(.cells #[.slice none 0 0,.slice none 0 0] 34)]).heap[w.heap.size]? = some (.cells #[.slice an nn cn,.slice ar nr cr] 34 (0,0)):=yn (i:=0) rfl
 have x1 : (yu w [(.cells #[.slice an nn cn,.slice ar nr cr] 34),(.cells #[.slice an' nn' cn',.slice ar' nr' cr'] 34),(.cells #[.slice none 0 0,.slice none 0 0] 34)]).heap[w.heap.size + 1]? = some (.cells #[.slice an' nn' cn',.slice ar' nr' cr'] 34 (0,0)):=yn (i:=1) rfl
 have x2 : (yu w [(.cells #[.slice an nn cn,.slice ar nr cr] 34),(.cells #[.slice an' nn' cn',.slice ar' nr' cr'] 34),(.cells #[.slice none 0 0,.slice none 0 0] 34)]).heap[w.heap.size + 1 + 1]? = some (.cells #[.slice none 0 0,.slice none 0 0] 34 (0,0)):=yn (i:=2) rfl
 have hsz : (yu w [(.cells #[.slice an nn cn,.slice ar nr cr] 34),(.cells #[.slice an' nn' cn',.slice ar' nr' cr'] 34),(.cells #[.slice none 0 0,.slice none 0 0] 34)]).heap.size = w.heap.size + 1 + 1 + 1:=by simp [yu]
 have hWW : yu w [(.cells #[.slice an nn cn,.slice ar nr cr] 34),(.cells #[.slice an' nn' cn',.slice ar' nr' cr'] 34),(.cells #[.slice none 0 0,.slice none 0 0] 34)] = ((w.alloc (.cells #[.slice an nn cn,.slice ar nr cr] 34)).alloc (.cells #[.slice an' nn' cn',.slice ar' nr' cr'] 34)).alloc (.cells #[.slice none 0 0,.slice none 0 0] 34):=rfl
 rw [<- hWW]
 clear hWW
 generalize yu w [(.cells #[.slice an nn cn,.slice ar nr cr] 34),(.cells #[.slice an' nn' cn',.slice ar' nr' cr'] 34),(.cells #[.slice none 0 0,.slice none 0 0] 34)] = W1 at *
 obtain ⟨gr,hgr⟩ : ∃ g,g = w.heap.size + 1 + 1:=⟨_,rfl⟩
 obtain ⟨gb,hgb⟩ : ∃ g,g = w.heap.size + 1:=⟨_,rfl⟩
 obtain ⟨ga,hga⟩ : ∃ g,g = w.heap.size:=⟨_,rfl⟩
 rw [<- hgr] at x2
 rw [<- hgb] at x1
 rw [<- hga] at x0
 rw [<- hgr,<- hgb,<- hga]
 have hne : Hid (w.heap.size <= gr /\ gr < W1.heap.size /\ ga < W1.heap.size /\ gb < W1.heap.size):=by refine ⟨?_,?_,?_,?_⟩ <;> omega
 have HB1:=hid bA
 have X0:=hid x0
 have X1:=hid x1
 have X2:=hid x2
 clear bA x0 x1 x2 hsz hgr hgb hga
 refine (zll an ar nn cn nr cr ns rs W1 (HG.out.below HB1.out) (fun d hd=>Nat.le_trans (HR.out d hd) (by decide)) hn hnr).mono ?_
 rintro e w2 ⟨a1,c1,a2,c2,ls,base,b2,rfl,hls,hT,hbase,b12⟩
 unfold GVal
 have HT:=hid hT
 have HLS:=hid hls
 have HBS:=hid hbase
 have HB12:=hid b12
 have d0:=(b12.block gb hne.out.2.2.2).trans X1.out
 have d0':=((Ba w2 (.cells #[.slice a1 ls.length c1,.slice a2 nr c2] 34)).block gb (Nat.lt_of_lt_of_le hne.out.2.2.2 b12.size)).trans d0
 have e0:=za d0' 0
 have e1:=za d0' 1
 clear hT hls hbase b12 d0
 go_wp2_with fail
 have bX:=Ba w2 (.cells #[.slice a1 ls.length c1,.slice a2 nr c2] 34)
 have hgo3:=ze w2 #[.slice a1 ls.length c1,.slice a2 nr c2] 34
 have hs3 : (w2.alloc (.cells #[.slice a1 ls.length c1,.slice a2 nr c2] 34)).heap.size = w2.heap.size + 1:=zb _ _
 obtain ⟨go,hgo⟩ : ∃ g,g = w2.heap.size:=⟨_,rfl⟩
 rw [<- hgo] at hgo3 hs3
 rw [<- hgo]
 generalize w2.alloc (.cells #[.slice a1 ls.length c1,.slice a2 nr c2] 34) = W3 at *
 have HBX:=hid bX
 have HGO:=hid hgo
 have HGO3:=hid hgo3
 have HS3:=hid hs3
 clear bX hgo hgo3 hs3 e0 e1 d0'
 have HB3 : Hid (Below w.heap.size w W3):=Bt (Bt HB1.out HB12.out) HBX.out
 refine (zll an' ar' nn' cn' nr' cr' ns' rs' W3 (HG'.out.below HB3.out) (fun d hd=>Nat.le_trans (HR'.out d hd) (by decide)) hn' hnr').mono ?_
 rintro e w4 ⟨a3,c3,a4,c4,ls',bb,b4,rfl,hls',hT',hbb,b34⟩
 unfold GVal
 have HT':=hid hT'
 have HLS':=hid hls'
 have HBB:=hid hbb
 have HB34:=hid b34
 clear hT' hls' hbb b34
 go_wp2_with fail
 have bY:=Ba w4 (.cells #[.slice a3 ls'.length c3,.slice a4 nr' c4] 34)
 have hgc5:=ze w4 #[.slice a3 ls'.length c3,.slice a4 nr' c4] 34
 obtain ⟨gc,hgc⟩ : ∃ g,g = w4.heap.size:=⟨_,rfl⟩
 rw [<- hgc] at hgc5
 rw [<- hgc]
 generalize w4.alloc (.cells #[.slice a3 ls'.length c3,.slice a4 nr' c4] 34) = W5 at *
 have HBY:=hid bY
 have HGC:=hid hgc
 have HGC5:=hid hgc5
 have HB35 : Hid (Below W3.heap.size W3 W5):=Bt HB34.out HBY.out
 have HB25 : Hid (Below w2.heap.size w2 W5):=Bt HBX.out HB35.out
 have HB5 : Hid (Below w.heap.size w W5):=Bt HB3.out HB35.out
 have HJ0 : Hid (JR w base bb go gr gc (.slice a1 ls.length c1) (.slice a2 nr c2) (.slice a3 ls'.length c3) (.slice a4 nr' c4) ls ls' ls' rs rs' W5):=by
  have z1:=HGO.out
  have z2:=HGC.out
  have z3:=HS3.out
  have z4:=HB34.out.size
  have z5:=HBB.out
  have z6:=HT.out.le2
  have z7:=HT.out.le
  have z8:=HT'.out.le2
  have z9:=HT'.out.le
  have z10:=hne.out
  have z11:=HBS.out
  have z12:=HB12.out.size
  have z13:=HB1.out.size
  have RA:=HT.out.roots
  have RB:=HT'.out.roots
  have ON:=HT.out.nodes
  have OC:=HT'.out.nodes
  refine ⟨(HB35.out.block go (by omega)).trans HGO3.out,?_,HGC5.out,ON.below HB25.out,?_,?_,?_,?_,HB5.out,by omega,by omega,by omega,by omega,by omega,by omega,by omega,?_,?_,?_,?_,?_,?_,?_,?_⟩
  ·exact (HB25.out.block gr (by omega)).trans ((HB12.out.block gr (by omega)).trans X2.out)
  ·exact vx OC.own HBY.out
  ·exact HT'.out.rows.frame (fun x hx b hb=>HBY.out.block b ((HT'.out.rows.own x hx).lt b hb).2)
  ·rw [hrl];exact zfz (vx RA HB25.out) z7
  ·rw [hrl'];exact zfz (vx RB HBY.out) z9
  ·exact ⟨fun e=>by have:=(ON.own.lt _ e).2;omega,fun e=>by have:=(ON.own.lt _ e).2;omega⟩
  ·intro b e
   have u1:=HT.out.under b e
   have u2:=ON.own.lt b e
   exact ⟨fun e=>by have:=(RA.lt _ e).1;omega,fun e=>by have:=(OC.own.lt _ e).1;omega,fun e=>by have:=(RB.lt _ e).1;omega⟩
  ·intro x hx ad had
   obtain ⟨u1,u2,u3⟩:=(OC.kids x hx).2 ad had
   have u4:=HT'.out.kunder x hx ad had
   exact ⟨fun e=>by have:=(ON.own.lt _ e).2;omega,by omega,u3,fun e=>by have:=(RB.lt _ e).1;omega⟩
  ·intro b e
   have:=(RA.lt _ e).2
   omega
  ·intro b e
   have:=(OC.own.lt _ e).2
   omega
  ·intro b e
   have u1:=RB.lt _ e
   exact ⟨by omega,fun e=>by have:=HT'.out.under _ e;omega⟩
  ·intro x hx ad had y hy q hq
   have u1:=((OC.kids x hx).2 ad had).1
   have u2:=((ON.kids y hy).2 q hq).2.1
   omega
  ·intro y hy q hq
   have u2:=((ON.kids y hy).2 q hq).2.1
   have u3:=HT.out.kunder y hy q hq
   exact ⟨by omega,by omega,fun e=>by have:=(RA.lt _ e).1;omega⟩
 have hnn' : ls'.length = nn':=by rw [<- hlen',<- HLS'.out,List.length_map]
 have hcap : Hid (ls'.length <= 2500 /\ nn <= 2500):=⟨by omega,hn⟩
 have HNN:=hid hnn'
 clear hnn'
 clear bY hgc hgc5 HT HT' HB35 HB25 HBY HGC5 HB34 HGO3 HS3 HBX HB12 X0 X1 X2 HB3 HGO HGC HBS HBB
 obtain ⟨vR,hvR⟩ : ∃ v,v = Value.slice a2 nr c2:=⟨_,rfl⟩
 rw [<- hvR] at HJ0
 go_loopw [8,9,10] (fun i x k wr=>∃ m : Nat,m <= ls'.length /\ i = .int .i64 m /\ Hid (∃ vO,JR w base bb go gr gc vO vR (.slice a3 ls'.length c3) (.slice a4 nr' c4) (ls ++ (ls'.take m).map (mvx nn)) ls' (ls'.drop m) rs rs' wr)) (fun i _ _ _=>ls'.length - (intOf i).toNat)
 case atStart=>exact ⟨0,Nat.zero_le _,rfl,_,by simpa using HJ0.out⟩
 case round =>
  obtain ⟨m,hmn,rfl,hI⟩:=hrel
  obtain ⟨vO,hJ⟩:=hI.out
  have HJ:=hid hJ
  have y0:=za hJ.gcb 0
  have y1:=za hJ.gcb 1
  simp only [List.getElem?_toArray] at y0 y1
  clear hJ hI
  by_cases hlt : m < ls'.length
  ·obtain ⟨x, hx⟩ : ∃ x, x = ls'.getD m (default, none, 0, 0) := ⟨_, rfl⟩
   obtain ⟨g,cap,hv,hc1,hc2,j1,j2,j3,j4⟩:=HJ.out.node hlt hx
   obtain ⟨⟨dk,dn,dt,dl⟩,ak,nk,ck⟩:=x
   simp only [] at j1 j2 j3 j4
   cases hv
   unfold maxLen at hc2
   have HX:=hid hx
   clear hx
   go_wp2_with fail
   have hdrop : ls'.drop m = (⟨dk,dn,dt,dl⟩,ak,nk,ck) :: ls'.drop (m + 1):=by
    rw [List.drop_eq_getElem_cons hlt,HX.out,List.getD_eq_getElem?_getD,List.getElem?_eq_getElem hlt];rfl
   have hmem : (⟨⟨dk,dn,dt,dl⟩,ak,nk,ck⟩ : Nd × (Option Addr × Nat × Nat))∈ls'.drop m:=by rw [hdrop];exact List.mem_cons_self
   have hrow:=HJ.out.rows.own _ hmem
   simp only [] at hrow
   have hdl : dl.length = nk:=by have:=hrow.1;rw [qb] at this;omega
   have HHD:=hid hdrop
   have bN:=Ba wr (.cells #[.int .i64 dk,.int .i64 dn,.string dt,.slice ak nk ck] 54)
   have hnx:=ze wr #[.int .i64 dk,.int .i64 dn,.string dt,.slice ak nk ck] 54
   have hsx:=zb wr (.cells #[.int .i64 dk,.int .i64 dn,.string dt,.slice ak nk ck] 54)
   have HKW0 : Hid (KW (wr.alloc (.cells #[.int .i64 dk,.int .i64 dn,.string dt,.slice ak nk ck] 54)) bb nn dl ak nk ck 0 (wr.alloc (.cells #[.int .i64 dk,.int .i64 dn,.string dt,.slice ak nk ck] 54))):=⟨by simpa [ko] using vx hrow bN,fun _ _=>rfl,rfl,Below.refl _ _⟩
   have hapart : Hid ((Value.slice ak nk ck).ownBlock ≠ some wr.heap.size):=fun e=>by have:=(hrow.lt _ e).2;omega
   obtain ⟨gx,hgx⟩ : ∃ g,g = wr.heap.size:=⟨_,rfl⟩
   rw [<- hgx] at hnx hsx hapart
   rw [<- hgx]
   generalize wr.alloc (.cells #[.int .i64 dk,.int .i64 dn,.string dt,.slice ak nk ck] 54) = W6 at *
   have HBN:=hid bN
   have HNX:=hid hnx
   have HSX:=hid hsx
   have HGX:=hid hgx
   clear bN hnx hsx hgx hrow hdrop hmem j1 j2 j3 j4 y0 y1
   go_loopw [10] (fun k wz=>∃ q : Nat,q <= nk /\ k = .int .i64 q /\ Hid (KW W6 bb nn dl ak nk ck q wz)) (fun k _=>nk - (intOf k).toNat)
   case atStart=>exact ⟨0,Nat.zero_le _,rfl,HKW0.out⟩
   case round =>
    obtain ⟨q,hq,rfl,hK⟩:=hrel
    have hxb:=(hK.out.keep gx hapart.out).trans HNX.out
    have hxc : wr.cell? ⟨gx,3,none⟩ = some (.slice ak nk ck):=za hxb 3
    have HK:=hid hK.out
    have HXB:=hid hxb
    clear hxb hK
    by_cases hlq : q < nk
    ·obtain ⟨gk, rfl, hgk, hf1, hf2, hfz, hcl, hnext⟩ := HK.out.at_ hlq hdl
     obtain ⟨z,hz⟩ : ∃ z,z = dl.getD q 0:=⟨_,rfl⟩
     rw [<- hz] at hcl hnext
     have HNE:=hid hnext
     unfold maxLen at hf2
     clear hz hnext
     go_wp2_with fail
     exact ⟨⟨q + 1,by omega,by go_num,HNE.out⟩,by simp [intOf] <;> omega⟩
    ·obtain rfl : q = nk := by omega
     have hxd0 : wr.cell? ⟨gx,0,none⟩ = some (.int .i64 dk):=za HXB.out 0
     have hxd1 : wr.cell? ⟨gx,1,none⟩ = some (.int .i64 dn):=za HXB.out 1
     have hxd2 : wr.cell? ⟨gx,2,none⟩ = some (.string dt):=za HXB.out 2
     have hJ:=HJ.out
     rw [HHD.out] at hJ
     have hJm:=hJ.moved HBN.out HK.out
     have hrow:=HK.out.row
     rw [List.take_of_length_le (by omega),List.drop_of_length_le (by omega),List.append_nil] at hrow
     have hbdm : ∀ z∈ko nn dl,I64 z:=fun z hz=>by
      obtain ⟨y,hy,rfl⟩:=List.mem_map.1 hz
      exact zhh _
     obtain ⟨_,_,hve,hIR⟩:=j8 hrow hbdm
     cases hve
     have hx3:=hJ.o3 _ List.mem_cons_self
     have hxp:=(List.pairwise_cons.1 hJ.rows.apart).1
     have hxk:=(hJ.rows.own _ List.mem_cons_self)
     have hdok : NdOk (zdm nn ⟨dk,dn,dt,dl⟩):=by
      have:=HG'.out.nodes.ok ⟨dk,dn,dt,dl⟩ (by rw [<- HLS'.out];exact List.mem_map.2 ⟨_,List.mem_of_mem_drop (by rw [HHD.out];exact List.mem_cons_self),rfl⟩)
      exact this
     have bV:=Ba wr (.cells #[.int .i64 dk,.int .i64 dn,.string dt,.slice ak q ck] 54)
     have hnV:=ze wr #[.int .i64 dk,.int .i64 dn,.string dt,.slice ak q ck] 54
     have JV:=hid (hJm.on bV)
     have IV:=hid (hIR.below bV)
     have HNV:=hid hnV
     have HOK:=hid hdok
     have hgo0 : wr.cell? ⟨go,0,none⟩ = some vO:=za hJm.gob 0
     obtain ⟨lo,hlo⟩ : ∃ lo,lo = ls ++ (ls'.take m).map (mvx nn):=⟨_,rfl⟩
     have hlol : lo.length <= 1000000:=by
      have e1 : ls.length = nn:=by rw [<- hlen,<- HLS.out,List.length_map]
      rw [hlo,List.length_append,List.length_map,List.length_take]
      have:=hcap.out;omega
     rw [<- hlo] at JV
     have HLO:=hid hlo
     have hbs : base <= (wr.alloc (.cells #[.int .i64 dk,.int .i64 dn,.string dt,.slice ak q ck] 54)).heap.size:=by
      have:=(Array.getElem?_eq_some_iff.1 JV.out.gcb).1;have:=JV.out.bbl;have:=JV.out.gcl;omega
     have HXF : Hid (∀ ad,ak = some ad -> base <= ad.block /\ ad.block < gc /\ vO.ownBlock ≠ some ad.block /\ ad.block ≠ go /\ vR.ownBlock ≠ some ad.block /\ ∀ y∈ls'.drop (m + 1),∀ q,y.2.1 = some q -> ad.block ≠ q.block):=fun ad had=>by
      obtain ⟨u1,u2,u3,u4⟩:=hx3 ad had
      have u5:=(hxk.lt ad.block (by simp only;rw [had];rfl)).1
      have u6:=hJ.bbl
      have u7:=hJ.gol
      exact ⟨by omega,u2,u1,by omega,fun e=>by have:=hJ.r1 _ e;omega,fun y hy q hq=>hxp y hy ad q had hq⟩
     clear hJ hJm hrow hbdm hIR hx3 hxp hxk hdok bV hnV hlo HK HJ HKW0
     go_wp2_with (at_builtin;refine appn rfl _ _ 31 rfl base 54 Tryz.underlying31 xv _ _ (ncs lo) rfl JV.out.out.own wr.heap.size 1 (zdm nn ⟨dk,dn,dt,dl⟩,ak,q,ck) rfl (fun j u hj=>zct HNV.out hj) hlol hbs ?_;intro g' cap' w6 hown hgrow hloc hglt;have hgo6:=zdi1 hgrow JV.out.gob JV.out.o1.1;have f1:=zc hgo6 0;have f2:=za hgo6 0;simp only [List.getElem?_toArray] at f2)
     have hP:=JV.out.push (x:=(zdm nn ⟨dk,dn,dt,dl⟩,ak,q,ck)) hown hgrow hloc HOK.out IV.out HXF.out
     refine ⟨⟨m + 1,by omega,by go_num,.slice (some ⟨g',0,none⟩) (lo.length + 1) cap',?_⟩,by simp [intOf] <;> omega⟩
     have e3 : ls ++ (ls'.take (m + 1)).map (mvx nn) = lo ++ [(zdm nn ⟨dk,dn,dt,dl⟩,ak,q,ck)]:=by
      rw [HLO.out,List.append_assoc,List.take_succ_eq_append_getElem hlt,List.map_append]
      have e4 : ls'[m] = (⟨dk,dn,dt,dl⟩,ak,q,ck):=by rw [HX.out,List.getD_eq_getElem?_getD,List.getElem?_eq_getElem hlt];rfl
      rw [e4];rfl
     rw [e3];exact hP
  ·obtain ⟨wo, hwo⟩ : ∃ x, x = wr := ⟨_, rfl⟩
   subst hwo
   obtain rfl : m = ls'.length:=by omega
   have hJ:=HJ.out
   rw [List.take_length,List.drop_length] at hJ
   obtain ⟨lo,hlo⟩ : ∃ lo,lo = ls ++ ls'.map (mvx nn):=⟨_,rfl⟩
   rw [<- hlo] at hJ
   have HLO:=hid hlo
   clear hlo
   have HJE:=hid hJ
   have hgol : Hid (go < wo.heap.size /\ gc < wo.heap.size /\ gr < wo.heap.size):=⟨(Array.getElem?_eq_some_iff.1 hJ.gob).1,(Array.getElem?_eq_some_iff.1 hJ.gcb).1,(Array.getElem?_eq_some_iff.1 hJ.grb).1⟩
   have hvne : Hid (vR.ownBlock ≠ some go /\ vR.ownBlock ≠ some gc /\ vR.ownBlock ≠ some gr /\ gc ≠ go /\ gr ≠ go):=by
    have z1:=hJ.gol;have z2:=hJ.gcl;have z3:=hJ.grl;have z4:=hJ.bbl
    exact ⟨fun e=>by have:=hJ.r1 _ e;omega,fun e=>by have:=hJ.r1 _ e;omega,fun e=>by have:=(hJ.ra.lt _ e).1;omega,by omega,hJ.gog⟩
   have hwb : Hid (w.heap.size <= base):=by have z3:=hJ.grl;have:=hJ.wgr;unfold Hid;omega
   have HRB : Hid (∀ z∈rs',I64 z):=HG'.out.roots.bd
   clear HJ hJ hmn hlt
   go_wp2_with fail
   clear y0 y1
   go_loopw [11] (fun i wz=>∃ q : Nat,q <= nr' /\ i = .int .i64 q /\ Hid (∃ vQ,RJ w wo base go vO vR vQ (rs ++ (rs'.take q).map (fun z=>wrap64 (z + (nn : Int)))) wz)) (fun i _=>nr' - (intOf i).toNat)
   case atStart=>exact ⟨0,Nat.zero_le _,rfl,vR,⟨HJE.out.gob,by simpa using HJE.out.ra,fun _ _ _ _=>rfl,fun _ e=>.inl e,Nat.le_refl _,HJE.out.bel⟩⟩
   case round =>
    obtain ⟨q,hqn,rfl,hI⟩:=hrel
    obtain ⟨vQ,hRJ⟩:=hI.out
    have hgbk:=(hRJ.keep gc hgol.out.2.1 hvne.out.2.2.2.1 hvne.out.2.1).trans HJE.out.gcb
    have cb1 : wr.cell? ⟨gc,1,none⟩ = some (.slice a4 nr' c4):=za hgbk 1
    obtain ⟨L,hL⟩ : ∃ L,L = rs ++ (rs'.take q).map (fun z=>wrap64 (z + (nn : Int))):=⟨_,rfl⟩
    have hlm : L.length = rs.length + q:=by rw [hL,List.length_append,List.length_map,List.length_take];omega
    rw [<- hL] at hRJ
    have HRI:=hid hRJ
    have HL:=hid hL
    have HLM:=hid hlm
    clear hI hgbk hL hlm
    obtain ⟨aQ,nQ,cQ,rfl⟩ : ∃ aQ nQ cQ,vQ = .slice aQ nQ cQ:=by rcases HRI.out.own.2 with ⟨h,_⟩ | ⟨g,cap,cur,h,_⟩ <;> exact ⟨_,_,_,h⟩
    by_cases hlt : q < nr'
    ·have hrb := HJE.out.rb
     rw [hrl'] at hrb
     obtain ⟨_,_,hve,hIRR⟩:=j8 hrb HRB.out
     cases hve
     obtain ⟨b,o,rfl,hlb,hcc⟩:=hIRR.some (by omega)
     have hbb:=hrb.lt b rfl
     have hs1:=HJE.out.s1 b rfl
     have hml : q < rs'.length:=by omega
     obtain ⟨z,hz⟩ : ∃ z,z = rs'.getD q 0:=⟨_,rfl⟩
     have hbgt : Hid (b < wo.heap.size /\ b ≠ go /\ vR.ownBlock ≠ some b):=by
      have z1:=HJE.out.gol
      exact ⟨hbb.2,by omega,fun e=>by have:=HJE.out.r1 _ e;omega⟩
     have hc1 : wr.cell? ⟨b,o + q,none⟩ = some (.int .i64 z):=by rw [hz];exact (World.cell?_of_block (a:=⟨b,o + q,none⟩) (hRJ.keep b hbgt.out.1 hbgt.out.2.1 hbgt.out.2.2)).trans (hcc q hlt)
     have hst : Hid (rs ++ (rs'.take (q + 1)).map (fun z=>wrap64 (z + (nn : Int))) = L ++ [wrap64 (z + nn)]):=by unfold Hid;rw [zae 0 hml,List.map_append,<- hz,HL.out,List.append_assoc];rfl
     have HS0 : Hid (HJb gc b (o + q) (.slice (some ⟨b,o,none⟩) nr' c4) z wr):=⟨cb1,hc1⟩
     clear hcc hz hRJ hc1 hIRR hbb hs1 hlb hrb
     have hw1 : IntKind.i64.wrap (z + (nn : Int)) = wrap64 (z + (nn : Int)):=by rw [IntKind.wrap_i64];unfold wrap64;omega
     go_wp2_with fail
     clear cb1
     refine wp_region_held_drew (S:=HJb gc b (o + q) (.slice (some ⟨b,o,none⟩) nr' c4) z) (by kernel_rfl) (HS0.out.on (Bd wr 1)) (fun hHeld=>?_)
     refine y9 0 (some 59) (.pointer (some ⟨go,1,none⟩)) rfl rfl (by kernel_rfl) (by kernel_rfl) (by kernel_rfl) (fun _ _ _ h=>h) (Or.inl ⟨by rfl,fun wx hSw=>?_⟩) (by assumption) ?_
     ·go_simp
     simp only [Act.put,List.setIfInBounds_toArray,List.set_cons_zero,List.set_cons_succ]
     refine y9 2 (some 61) (.pointer (some ⟨gc,1,none⟩)) rfl rfl (by kernel_rfl) (by kernel_rfl) (by kernel_rfl) (fun _ _ _ h=>h) (Or.inl ⟨by rfl,fun wx hSw=>?_⟩) (by assumption) ?_
     ·go_simp
     simp only [Act.put,List.setIfInBounds_toArray,List.set_cons_zero,List.set_cons_succ]
     refine y9 3 (some 62) (.slice (some ⟨b,o,none⟩) nr' c4) rfl rfl (by kernel_rfl) (by kernel_rfl) (by kernel_rfl) (fun _ _ _ h=>h) (Or.inl ⟨by rfl,fun wx hSw=>?_⟩) (by assumption) ?_
     ·obtain ⟨s0,s1⟩:=hSw;go_simp
     simp only [Act.put,List.setIfInBounds_toArray,List.set_cons_zero,List.set_cons_succ]
     refine y9 4 (some 63) (.int .i64 (q : Int)) rfl rfl (by kernel_rfl) (by kernel_rfl) (by kernel_rfl) (fun _ _ _ h=>h) (Or.inl ⟨by rfl,fun wx hSw=>?_⟩) (by assumption) ?_
     ·go_simp
     simp only [Act.put,List.setIfInBounds_toArray,List.set_cons_zero,List.set_cons_succ]
     refine y9 5 (some 64) (.pointer (some ⟨b,o + q,none⟩)) rfl rfl (by kernel_rfl) (by kernel_rfl) (by kernel_rfl) (fun _ _ _ h=>h) (Or.inl ⟨by rfl,fun wx hSw=>?_⟩) (by assumption) ?_
     ·go_simp
     simp only [Act.put,List.setIfInBounds_toArray,List.set_cons_zero,List.set_cons_succ]
     refine y9 6 (some 65) (.int .i64 z) rfl rfl (by kernel_rfl) (by kernel_rfl) (by kernel_rfl) (fun _ _ _ h=>h) (Or.inl ⟨by rfl,fun wx hSw=>?_⟩) (by assumption) ?_
     ·obtain ⟨s0,s1⟩:=hSw;go_simp
     simp only [Act.put,List.setIfInBounds_toArray,List.set_cons_zero,List.set_cons_succ]
     refine y9 7 (some 66) (.int .i64 (nn : Int)) rfl rfl (by kernel_rfl) (by kernel_rfl) (by kernel_rfl) (fun _ _ _ h=>h) (Or.inl ⟨by rfl,fun wx hSw=>?_⟩) (by assumption) ?_
     ·go_simp
     simp only [Act.put,List.setIfInBounds_toArray,List.set_cons_zero,List.set_cons_succ]
     refine y9 8 (some 67) (.int .i64 (wrap64 (z + (nn : Int)))) rfl rfl (by kernel_rfl) (by kernel_rfl) (by kernel_rfl) (fun _ _ _ h=>h) (Or.inl ⟨by rfl,fun wx hSw=>?_⟩) (by assumption) ?_
     ·go_simp
     simp only [Act.put,List.setIfInBounds_toArray,List.set_cons_zero,List.set_cons_succ]
     refine gj Lqj Mqj (fun a0 s a wx=>∃ t1 t2,a = (a0.put (some 60) t1).put (some 68) t2 /\ QJ wr (.slice aQ nQ cQ) (wrap64 (z + (nn : Int))) s.1 s.2 t1 t2 wx) 3 2 (false,false) rfl ?_ ?_
     ·exact ⟨u60,u68,rfl,QJ.mk0 (Bd wr 1)⟩
     clear hHeld
     rintro ⟨k,al⟩ a wx ⟨t1,t2,rfl,hst2⟩
     simp only [Act.put,List.setIfInBounds_toArray,List.set_cons_zero,List.set_cons_succ]
     simp only at hst2
     have HSt:=hid hst2
     clear hst2
     have HSX:=hid (HS0.out.on HSt.out.bel)
     have HGX:=hid ((HSt.out.bel.block go (Array.getElem?_eq_some_iff.1 HRI.out.out).1).trans HRI.out.out)
     have cgo : wx.cell? ⟨go,1,none⟩ = some (.slice aQ nQ cQ):=za HGX.out 1
     cases k <;> cases al
     ·refine .inr ⟨[1, 9], by decide, by kernel_rfl, by simp, ?_⟩
      refine ym.cons (false,true) rfl rfl rfl (fun K hK=>?_) ?_
      ·go_simp;exact hK.out _ _ HSX.out ⟨_,t2,rfl,HSt.out.load⟩
      refine ym.cons (true,false) rfl rfl rfl (fun K hK=>?_) ?_
      ·go_simp;exact hK.out _ _ (HSX.out.on (Ba _ _)) ⟨t1,_,rfl,HSt.out.build⟩
      exact ym.nil
     ·refine .inr ⟨[9], by decide, by kernel_rfl, by simp, ?_⟩
      refine ym.cons (true,true) rfl rfl rfl (fun K hK=>?_) ?_
      ·go_simp;exact hK.out _ _ (HSX.out.on (Ba _ _)) ⟨t1,_,rfl,HSt.out.build⟩
      exact ym.nil
     ·refine .inr ⟨[1], by decide, by kernel_rfl, by simp, ?_⟩
      refine ym.cons (true,true) rfl rfl rfl (fun K hK=>?_) ?_
      ·go_simp;exact hK.out _ _ HSX.out ⟨_,t2,rfl,HSt.out.load⟩
      exact ym.nil
     ·refine .inl ⟨rfl, ?_⟩
      obtain ⟨g0,rfl,hg0⟩:=HSt.out.i1 rfl
      obtain rfl:=HSt.out.i0 rfl
      have hg0c : wx.cell? ⟨g0,0,none⟩ = some (.int .i64 (wrap64 (z + (nn : Int)))):=za hg0 0
      have HOX:=hid (vx HRI.out.own HSt.out.bel)
      have hbx : base <= wx.heap.size:=by have:=HRI.out.size;have:=HSt.out.bel.size;have:=hgol.out;have:=HJE.out.bbl;have:=HJE.out.gcl;omega
      have hLs : L.length <= 1000000:=by have:=HLM.out;omega
      clear cgo
      refine hone 10 _ rfl (by kernel_rfl) (fun K hK=>?_)
      refine zgj1 (some 69) rfl rfl _ _ 32 rfl base 3 Tryz.underlying32 jm _ L.length L rfl HOX.out g0 1 (wrap64 (z + (nn : Int))) rfl hg0c hLs hbx ?_
      intro g cap w5 ho hgrow hloc hglt
      obtain ⟨hgt5,hkp5,hnew⟩:=HRI.out.push HSt.out.bel HJE.out.wgo hgol.out.1 hvne.out.1 hwb.out ho hgrow hloc
      rw [<- hst.out] at hnew
      have hw5 : ∀ c,c < wo.heap.size -> c ≠ go -> vR.ownBlock ≠ some c -> w5.heap[c]? = wx.heap[c]?:=fun c h1 h2 h3=>(hkp5 c h1 h2 h3).trans ((HSt.out.bel.block c (Nat.lt_of_lt_of_le h1 HRI.out.size)).trans (HRI.out.keep c h1 h2 h3)).symm
      have HSA : Hid (HJb gc b (o + q) (.slice (some ⟨b,o,none⟩) nr' c4) z w5):=HSX.out.far (hw5 gc hgol.out.2.1 hvne.out.2.2.2.1 hvne.out.2.1) (hw5 b hbgt.out.1 hbgt.out.2.1 hbgt.out.2.2)
      have HSB : Hid (HJb gc b (o + q) (.slice (some ⟨b,o,none⟩) nr' c4) z (w5.setCell ⟨go,1,none⟩ (.slice (some ⟨g,0,none⟩) (L.length + 1) cap))):=HSA.out.far (Below.heap_setCell _ _ _ _ hvne.out.2.2.2.1) (Below.heap_setCell _ _ _ _ hbgt.out.2.1)
      have q1 : w5.frozen? ⟨go,1,none⟩ = false:=zc hgt5 1
      have q2 : w5.cell? ⟨go,1,none⟩ = some (.slice aQ nQ cQ):=za hgt5 1
      have HNEW:=hid hnew
      clear ho hgrow hloc hglt hgt5 hkp5 hnew hw5 hbx hg0 hg0c
      refine hK.out _ _ HSA.out (fun hHeld=>?_)
      clear hK K hHeld
      try simp only [Act.put,List.setIfInBounds_toArray,List.set_cons_zero,List.set_cons_succ]
      refine hone 11 _ rfl (by kernel_rfl) (fun K hK=>?_)
      go_simp
      refine hK.out _ _ HSA.out (fun hHeld=>?_)
      clear hK K hHeld
      refine hone 12 _ rfl (by kernel_rfl) (fun K hK=>?_)
      go_simp
      refine hK.out _ _ HSB.out (fun hHeld=>?_)
      clear hK K hHeld q1 q2 HSA HSB
      refine wpAnyH_done (by kernel_rfl) ?_ _
      generalize w5.setCell ⟨go,1,none⟩ (.slice (some ⟨g,0,none⟩) (L.length + 1) cap) = w7 at *
      go_wp2
      exact ⟨⟨q + 1,by omega,by go_num,_,HNEW.out⟩,by simp [intOf] <;> omega⟩
    ·obtain rfl : q = nr' := by omega
     have y6:=HRI.out.out
     have r6:=(HRI.out.keep gr hgol.out.2.2 hvne.out.2.2.2.2 hvne.out.2.2.1).trans HJE.out.grb
     have k0:=za y6 0
     have k1:=za y6 1
     have d0:=za r6 0
     have d1:=za r6 1
     have e0:=zc r6 0
     have e1:=zc r6 1
     have HR6:=hid r6
     obtain ⟨aO,cO,rfl,hNR⟩:=HJE.out.out.row
     have hlt6 : Hid (gr < wr.heap.size /\ go < wr.heap.size):=⟨(Array.getElem?_eq_some_iff.1 r6).1,(Array.getElem?_eq_some_iff.1 y6).1⟩
     clear y6 r6 hNR
     go_wp2_with fail
     have hst:=fd (v1:=.slice aO lo.length cO) (v2:=.slice aQ nQ cQ) HR6.out
     have t0:=za hst 0
     have t1:=za hst 1
     (try simp only [Exit.inBlock,Exit.then]);refine bodyPost_ret (by simp [results,Tryz.results24,go_sem,t0,t1];rfl) rfl ?_
     have hwgr:=HJE.out.wgr
     have hgrl:=HJE.out.grl
     have hfar : ∀ b,base <= b -> ((wr.setCell ⟨gr,0,none⟩ (.slice aO lo.length cO)).setCell ⟨gr,1,none⟩ (.slice aQ nQ cQ)).heap[b]? = wr.heap[b]?:=fun b hb=>jj (by omega)
     have N7 : NOwn base ((wr.setCell ⟨gr,0,none⟩ (.slice aO lo.length cO)).setCell ⟨gr,1,none⟩ (.slice aQ nQ cQ)) (.slice aO lo.length cO) lo:=by
      refine HJE.out.out.away (by have:=HRI.out.size;simp [World.setCell];omega) (fun b e=>?_) (fun x hx ad had=>?_)
      ·have u := HJE.out.out.own.lt b e
       exact (hfar b u.1).trans (HRI.out.keep b u.2 (fun e'=>HJE.out.o1.1 (by rw [<- e'];exact e)) (HJE.out.o2 b e).1)
      ·have u := (HJE.out.out.kids x hx).2 ad had
       have u':=HJE.out.q1 x hx ad had
       exact (hfar _ u.1).trans (HRI.out.keep _ u.2.1 u'.1 u'.2.2)
     have O7 : ((wr.setCell ⟨gr,0,none⟩ (.slice aO lo.length cO)).setCell ⟨gr,1,none⟩ (.slice aQ nQ cQ)).ownsRow base 3 1 (.slice aQ nQ cQ) L.length (cz L):=xb HRI.out.own (fun b e=>hfar b (HRI.out.own.lt b e).1)
     have hL : L = rs ++ rs'.map (fun z=>wrap64 (z + (nn : Int))):=by have:=HL.out;rwa [List.take_of_length_le (by omega)] at this
     have hbd : ∀ z∈L,I64 z:=by
      rw [hL];intro z hz
      rcases List.mem_append.1 hz with hz | hz
      ·exact HG.out.roots.bd z hz
      ·obtain ⟨y, hy, rfl⟩ := List.mem_map.1 hz
       exact zhh _
     obtain ⟨_,_,hve,hIR⟩:=j8 O7 hbd
     cases hve
     obtain ⟨_,_,hve,hNR⟩:=N7.row
     cases hve
     have eL : lo.map Prod.fst = qw ns ns':=by rw [HLO.out];exact zni HLS.out HLS'.out hlen
     rw [eL] at hNR
     rw [hlen,<- hL]
     exact ⟨_,_,_,_,_,_,rfl,⟨hNR,hIR⟩,yw HRI.out.bel hwgr⟩
end Go.Proofs.YticimejfjjmikaaGreatDoor
