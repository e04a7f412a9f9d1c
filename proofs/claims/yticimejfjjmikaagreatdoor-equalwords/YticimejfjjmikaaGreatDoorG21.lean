import Derived.Test.YticimejfjjmikaaGreatDoorQ3
import Derived.Maps.OwnSet
import Derived.WideKeyPair
import Derived.DeepKeys5
import Derived.Deep.RegionWith
import Derived.Test.YticimejfjjmikaaGreatDoorM2
set_option linter.unusedVariables false
set_option linter.unusedSimpArgs false
set_option maxRecDepth 100000
namespace Go.Proofs.YticimejfjjmikaaGreatDoor
open Go.RowKit
theorem ekeyed : Maps.Keyed Tryz.prog 44:=Maps.int_keyed Tryz.underlying44
theorem ekey_of {z : Int} (hz : U64 z) : keyOf Tryz.prog 44 (.int .u64 z) = some (.int .u64 z):=Maps.keyOf_int_mk Tryz.underlying44 (by unfold U64 at hz;simp [Lit.wf,IntKind.min,IntKind.max,IntKind.signed,IntKind.bits];omega)
theorem own_sharp {k : TypeId} {R : Value -> Option (DataW Unit × List MemPlace)} {w : World} {b n : Nat} {D : DataW Unit} (h : w.ownsMap Tryz.prog k R b n D) {m : Nat} (hm : Maps.size D = m) : w.ownsMap Tryz.prog k R b m D:=by
 obtain ⟨es,clock,hb,F,hs,rfl⟩:=h
 exact ⟨es,clock,hb,F,by rw [<- hm];simp [Maps.size,length_sorted],rfl⟩
theorem zword (w : World) : (zeroValue 44).run Tryz.prog w = .ok (.int .u64 0) w:=by kernel_rfl
theorem wf_u64 {z : Int} (hz : U64 z) : (Lit.int .u64 z).wf = true:=by unfold U64 at hz;simp [Lit.wf,IntKind.min,IntKind.max,IntKind.signed,IntKind.bits];omega
def MapU (w : World) (Bm : Nat) (q : List Int) (L : Int -> Option Int) : Prop :=
 ∃ D,w.ownsMap (H:=Unit) Tryz.prog 44 (plainElem Tryz.prog 44) Bm q.length D /\ Maps.size D = q.length /\ ∀ z,U64 z -> Maps.has D (.int .u64 z) = (L z).isSome /\ (L z).isSome = decide (z∈q) /\ ∀ y,L z = some y -> U64 y /\ D.atKey (.int .u64 z) (.lit (.int .u64 0)) = .lit (.int .u64 y)
section
variable {w w' : World} {Bm : Nat} {q : List Int} {L : Int -> Option Int} {z y : Int}
theorem MapU.frame (h : MapU w Bm q L) (hb : w'.heap[Bm]? = w.heap[Bm]?) : MapU w' Bm q L:=by
 obtain ⟨D,⟨es,clock,h1,h2,h3,h4⟩,h5⟩:=h
 exact ⟨D,⟨es,clock,hb.trans h1,h2,h3,h4⟩,h5⟩
theorem MapU.made (w : World) : MapU (w.alloc (.map #[] 0)) w.heap.size [] (fun _=>none) :=
 ⟨.map [],World.ownsMap_made w _ _ _,rfl,fun z hz=>⟨by simp [Maps.has],by simp,fun y h=>by cases h⟩⟩
theorem MapU.look (h : MapU w Bm q L) (hz : U64 z) : ∃ c : Int,(Instr.lookup 110 (.map (some Bm)) (.int .u64 z) true).run Tryz.prog w = .ok (.tuple #[.int .u64 c,.bool (L z).isSome]) w /\ (∀ y,L z = some y -> c = y /\ U64 y):=by
 obtain ⟨D,h1,h2,h3⟩:=h
 obtain ⟨v,ps,hrun,hv⟩:=h1.look_ok ekeyed Tryz.underlying110 (zword w) (plainElem_int Tryz.underlying44 (a:=0) (by decide)) (ekey_of hz)
 obtain ⟨c,rfl,hc,_⟩:=plainElem_int_inv Tryz.underlying44 hv
 obtain ⟨g1,g2,g3⟩:=h3 z hz
 refine ⟨c,by rw [hrun,g1],fun y hy=>?_⟩
 obtain ⟨k1,k2⟩:=g3 y hy
 have hc1:=congrArg Prod.fst hc
 simp only at hc1
 rw [k2] at hc1
 injection hc1 with hc1
 injection hc1 with _ hc1
 exact ⟨hc1.symm,k1⟩
theorem MapU.store (h : MapU w Bm q L) (hz : U64 z) (hy : U64 y) (hl : q.length <= 100000000) : ∃ w',(Instr.mapUpdate 110 (.map (some Bm)) (.int .u64 z) (.int .u64 y)).run Tryz.prog w = .ok () w' /\ MapU w' Bm (if z∈q then q else q ++ [z]) (upd L z y) /\ w.grownBy w' (some Bm):=by
 obtain ⟨D,h1,h2,h3⟩:=h
 obtain ⟨w',hrun,ho,ht⟩:=h1.store ekeyed Tryz.underlying110 (by unfold maxLen;omega) (ekey_of hz) (plainElem_int Tryz.underlying44 (a:=y) (wf_u64 hy))
 have hsz : Maps.size (D.put (.int .u64 z) (.lit (.int .u64 y))) = (if z∈q then q else q ++ [z]).length:=by
  obtain ⟨g1,g2,g3⟩:=h3 z hz
  rw [Maps.size_put (h1.tidy ekeyed),g1,g2,h2]
  by_cases e : z∈q
  ·rw [decide_eq_true e,if_pos rfl,if_pos e]
  ·rw [decide_eq_false e,if_neg (by decide),if_neg e,List.length_append];rfl
 refine ⟨w',hrun,⟨_,own_sharp ho hsz,hsz,fun x hx=>?_⟩,ht.grown⟩
 by_cases e : x = z
 ·subst e
  refine ⟨?_,?_,fun y' hy'=>?_⟩
  ·rw [Maps.has_put_same h1.isMap (ekeyed.key (ekey_of hz))];simp [upd]
  ·simp only [upd, if_true, Option.isSome_some]
   by_cases e : x∈q
   ·rw [if_pos e,decide_eq_true e]
   ·rw [if_neg e];simp
  ·unfold upd at hy'
   rw [if_pos rfl] at hy'
   injection hy' with hy'
   subst hy'
   exact ⟨hy,Maps.atKey_put_same h1.isMap (ekeyed.key (ekey_of hz)) _ _⟩
 ·have hne : (Lit.int .u64 x) ≠ .int .u64 z := fun e' => e (by injection e')
  obtain ⟨g1,g2,g3⟩:=h3 x hx
  have eu : upd L z y x = L x:=by unfold upd;rw [if_neg e]
  rw [eu]
  refine ⟨by rw [Maps.has_put_other hne,g1],?_,fun y' hy'=>?_⟩
  ·rw [g2]
   congr 1
   split
   ·rfl
   ·simp [e]
  ·rw [Maps.atKey_put_other hne];exact g3 y' hy'
end
theorem pkeyed : Maps.Keyed Tryz.prog 115 :=
 Maps.Keyed.of_law (deep_law_laid (m:=2) (by kernel_rfl) (by omega) (of_decide_eq_true (by kernel_rfl)) (by kernel_rfl) (by rw [Tryz.underlying115]))
theorem parr : WideMaps.ArrKey Tryz.prog 115 44 2:=⟨Tryz.underlying115,by kernel_rfl,by kernel_rfl,by kernel_rfl⟩
def pairV (x y : Int) : Value:=.agg #[.int .u64 x,.int .u64 y]
theorem pkey_of {x y : Int} (hx : U64 x) (hy : U64 y) : ∃ kl,keyOf Tryz.prog 115 (pairV x y) = some kl :=
 ⟨_,WideMaps.keyOf_pair parr Tryz.underlying44 ⟨Tryz.prog.types.size - 1,by have : 0 < Tryz.prog.types.size:=of_decide_eq_true (by kernel_rfl);omega⟩ (wf_u64 hx) (wf_u64 hy)⟩
def MapH (w : World) (Bm : Nat) (q : List (Int × Int)) : Prop :=
 ∃ D,w.ownsMap (H:=Unit) Tryz.prog 115 unitElem Bm q.length D /\ Maps.size D = q.length /\ ∀ x y kl,U64 x -> U64 y -> keyOf Tryz.prog 115 (pairV x y) = some kl -> Maps.has D kl = decide ((x,y)∈q)
section
variable {w w' : World} {Bm : Nat} {q : List (Int × Int)} {x y : Int}
theorem MapH.frame (h : MapH w Bm q) (hb : w'.heap[Bm]? = w.heap[Bm]?) : MapH w' Bm q:=by
 obtain ⟨D,⟨es,clock,h1,h2,h3,h4⟩,h5⟩:=h
 exact ⟨D,⟨es,clock,hb.trans h1,h2,h3,h4⟩,h5⟩
theorem MapH.made (w : World) : MapH (w.alloc (.map #[] 0)) w.heap.size [] :=
 ⟨.map [],World.ownsMap_made w _ _ _,rfl,fun x y kl _ _ _=>by simp [Maps.has]⟩
theorem zunit (w : World) : (zeroValue 168).run Tryz.prog w = .ok (.agg #[]) w:=by kernel_rfl
theorem MapH.look (h : MapH w Bm q) (hx : U64 x) (hy : U64 y) : (Instr.lookup 109 (.map (some Bm)) (pairV x y) true).run Tryz.prog w = .ok (.tuple #[.agg #[],.bool (decide ((x,y)∈q))]) w:=by
 obtain ⟨D,h1,h2,h3⟩:=h
 obtain ⟨kl,hk⟩:=pkey_of hx hy
 obtain ⟨v,ps,hrun,hv⟩:=h1.look_ok pkeyed Tryz.underlying109 (zunit w) unitElem_mk hk
 obtain ⟨rfl,_⟩:=unitElem_inv hv
 rw [hrun,h3 x y kl hx hy hk]
theorem MapH.store (h : MapH w Bm q) (hx : U64 x) (hy : U64 y) (hm : (x,y) ∉ q) (hl : q.length <= 100000000000000) : ∃ w',(Instr.mapUpdate 109 (.map (some Bm)) (pairV x y) (.agg #[])).run Tryz.prog w = .ok () w' /\ MapH w' Bm (q ++ [(x,y)]) /\ w.grownBy w' (some Bm):=by
 obtain ⟨D,h1,h2,h3⟩:=h
 obtain ⟨kl,hk⟩:=pkey_of hx hy
 obtain ⟨w',hrun,ho,ht⟩:=h1.store pkeyed Tryz.underlying109 (by unfold maxLen;omega) hk unitElem_mk
 have hsz : Maps.size (D.put kl (.agg [])) = (q ++ [(x,y)]).length:=by
  rw [Maps.size_put (h1.tidy pkeyed),h3 x y kl hx hy hk,decide_eq_false hm,if_neg (by decide),h2,List.length_append];rfl
 refine ⟨w',hrun,⟨_,own_sharp ho hsz,hsz,fun x' y' kl' hx' hy' hk'=>?_⟩,ht.grown⟩
 by_cases e : kl' = kl
 ·subst e
  have:=pkeyed.inj hk hk'
  unfold pairV at this
  have e2 : x = x' /\ y = y':=by simpa using this
  obtain ⟨rfl,rfl⟩:=e2
  rw [Maps.has_put_same h1.isMap (pkeyed.key hk)];simp
 ·have hne : (x', y') ≠ (x, y) := fun e' => by
   injection e' with a1 a2
   subst a1 a2
   rw [hk] at hk'
   injection hk' with hk'
   exact e hk'.symm
  rw [Maps.has_put_other e,h3 x' y' kl' hx' hy' hk']
  congr 1
  simp [hne]
end
def pz (l : List (Int × Int)) : List Value:=l.flatMap (fun p=>[.int .u64 p.1,.int .u64 p.2])
theorem pz_append (a b : List (Int × Int)) : pz (a ++ b) = pz a ++ pz b:=by simp [pz]
theorem pz_length (l : List (Int × Int)) : (pz l).length = l.length * 2:=by
 induction l with
 | nil=>rfl
 | cons x l ih=>simp only [pz,List.flatMap_cons,List.length_append,List.length_cons,List.length_nil] at ih ⊢;omega
structure MT (b : Nat) (w0 : World) (v vO : Value) (q : List Int) (L : Int -> Option Int) (hq op : List (Int × Int)) (w : World) : Prop where
 bel : Below b w0 w
 box : w.heap[b + 2]? = some (.cells #[v,.map (some b),.map (some (b + 1)),vO] 113 (0,0))
 mh : MapH w b hq
 ml : MapU w (b + 1) q L
 ow : w.ownsRow (b + 3) 115 2 vO op.length (pz op)
section
variable {b : Nat} {w0 w w' : World} {v vO : Value} {q : List Int} {L : Int -> Option Int} {hq op : List (Int × Int)}
theorem MT.lt (h : MT b w0 v vO q L hq op w) : b + 3 <= w.heap.size:=(Array.getElem?_eq_some_iff.1 h.box).1
theorem MT.on (h : MT b w0 v vO q L hq op w) (hb : Below w.heap.size w w') : MT b w0 v vO q L hq op w':=by
 have hl:=h.lt
 exact ⟨h.bel.trans (hb.mono (by omega)),(hb.block _ (by omega)).trans h.box,h.mh.frame (hb.block _ (by omega)),h.ml.frame (hb.block _ (by omega)),own_at h.ow (fun k e=>hb.block k (h.ow.lt k e).2)⟩
theorem MT.turnL {q' : List Int} {L' : Int -> Option Int} (h : MT b w0 v vO q L hq op w) (hg : w.grownBy w' (some (b + 1))) (hm : MapU w' (b + 1) q' L') : MT b w0 v vO q' L' hq op w':=by
 have hl:=h.lt
 have hk : ∀ k,k < w.heap.size -> k ≠ b + 1 -> w'.heap[k]? = w.heap[k]?:=fun k hk hne=>hg.block k hk (fun e=>hne (Option.some.inj e))
 refine ⟨h.bel.trans ⟨hg.os,hg.tape,hg.output,hg.size,fun k hk'=>hk k (by omega) (by omega)⟩,(hk _ (by omega) (by omega)).trans h.box,h.mh.frame (hk _ (by omega) (by omega)),hm,own_at h.ow (fun k e=>?_)⟩
 have:=h.ow.lt k e
 exact hk k this.2 (by omega)
theorem MT.turnH {hq' : List (Int × Int)} (h : MT b w0 v vO q L hq op w) (hg : w.grownBy w' (some b)) (hm : MapH w' b hq') : MT b w0 v vO q L hq' op w':=by
 have hl:=h.lt
 have hk : ∀ k,k < w.heap.size -> k ≠ b -> w'.heap[k]? = w.heap[k]?:=fun k hk hne=>hg.block k hk (fun e=>hne (Option.some.inj e))
 refine ⟨h.bel.trans ⟨hg.os,hg.tape,hg.output,hg.size,fun k hk'=>hk k (by omega) (by omega)⟩,(hk _ (by omega) (by omega)).trans h.box,hm,h.ml.frame (hk _ (by omega) (by omega)),own_at h.ow (fun k e=>?_)⟩
 have:=h.ow.lt k e
 exact hk k this.2 (by omega)
theorem MT.push {op' : List (Int × Int)} {g cap n : Nat} (h : MT b w0 v vO q L hq op w) (hn : op'.length = n) (ho : w'.ownsRow (b + 3) 115 2 (.slice (some ⟨g,0,none⟩) n cap) n (pz op')) (hg : w.grownBy w' vO.ownBlock) (hl : vO.ownBlock = some g \/ g = w.heap.size) :
  MT b w0 v (.slice (some ⟨g,0,none⟩) n cap) q L hq op' (w'.setCell ⟨b + 2,3,none⟩ (.slice (some ⟨g,0,none⟩) n cap)) /\ w'.cell? ⟨b + 2,3,none⟩ = some vO /\ w'.frozen? ⟨b + 2,3,none⟩ = false:=by
 subst hn
 have hs:=h.lt
 have hw2 : ∀ k,vO.ownBlock = some k -> b + 3 <= k:=fun k e=>(h.ow.lt k e).1
 have hk : ∀ k,k < w.heap.size -> vO.ownBlock ≠ some k -> w'.heap[k]? = w.heap[k]?:=fun k hk hne=>hg.block k hk (fun e=>hne e.symm)
 have hlow : ∀ k,k < b + 3 -> w'.heap[k]? = w.heap[k]?:=fun k hkb=>hk k (by omega) (fun e=>by have:=hw2 k e;omega)
 have hset : ∀ k,k ≠ b + 2 -> (w'.setCell ⟨b + 2,3,none⟩ (.slice (some ⟨g,0,none⟩) op'.length cap)).heap[k]? = w'.heap[k]?:=fun k hne=>Below.heap_setCell _ _ _ _ hne
 have hg2 : b + 3 <= g:=by rcases hl with e | e;exact hw2 g e;omega
 have hbx:=(hlow (b + 2) (by omega)).trans h.box
 refine ⟨⟨?_,?_,h.mh.frame ((hset _ (by omega)).trans (hlow _ (by omega))),h.ml.frame ((hset _ (by omega)).trans (hlow _ (by omega))),own_at ho (fun k e=>?_)⟩,blk_cell hbx 3,blk_free hbx 3⟩
 ·exact (h.bel.trans ⟨hg.os,hg.tape,hg.output,hg.size,fun k hk'=>hlow k (by omega)⟩).setCell (p:=⟨b + 2,3,none⟩) (by show b <= b + 2;omega) _
 ·rw [blk_set (i:=3) hbx];rfl
 ·have e' : g = k := Option.some.inj e
  exact hset k (by omega)
theorem MT.pop {op' : List (Int × Int)} {p : Int × Int} (h : MT b w0 v vO q L hq (op' ++ [p]) w) : ∃ g cap,vO = .slice (some ⟨g,0,none⟩) (op'.length + 1) cap /\ op'.length + 1 <= cap /\ cap <= maxLen /\ w.cell? ⟨g,op'.length * 2,none⟩ = some (.int .u64 p.1) /\ w.cell? ⟨g,op'.length * 2 + 1,none⟩ = some (.int .u64 p.2) /\ MT b w0 v (.slice (some ⟨g,0,none⟩) op'.length cap) q L hq op' (w.setCell ⟨b + 2,3,none⟩ (.slice (some ⟨g,0,none⟩) op'.length cap)):=by
 have ho:=h.ow
 have hs:=h.lt
 rw [List.length_append,List.length_singleton,pz_append] at ho
 rcases ho.2 with ⟨h0,h1⟩ | ⟨g,cap,cur,h1,h2,h3,h4,h5,h6,h7⟩
 ·omega
 have hset : ∀ k,k ≠ b + 2 -> (w.setCell ⟨b + 2,3,none⟩ (.slice (some ⟨g,0,none⟩) op'.length cap)).heap[k]? = w.heap[k]?:=fun k hne=>Below.heap_setCell _ _ _ _ hne
 have hl:=pz_length op'
 have key : ∀ j,j < 2 -> w.cell? ⟨g,op'.length * 2 + j,none⟩ = (pz [p])[j]?:=fun j hj=>by
  rw [blk_cell h3]
  have : (cur.toList.take ((op'.length + 1) * 2))[op'.length * 2 + j]? = (pz [p])[j]?:=by
   rw [h7,List.getElem?_append_right (by omega),hl]
   congr 1;omega
  rw [<- this,List.getElem?_take,if_pos (by omega)];simp
 refine ⟨g,cap,h1,h4,h5,key 0 (by omega),key 1 (by omega),⟨h.bel.setCell (p:=⟨b + 2,3,none⟩) (by show b <= b + 2;omega) _,by rw [blk_set (i:=3) h.box];rfl,h.mh.frame (hset _ (by omega)),h.ml.frame (hset _ (by omega)),?_⟩⟩
 refine ⟨hl,.inr ⟨g,cap,cur,rfl,h2,(hset g (by omega)).trans h3,by omega,h5,h6,?_⟩⟩
 have:=congrArg (List.take (op'.length * 2)) h7
 rw [List.take_take,Nat.min_eq_left (by omega),List.take_append_of_le_length (by omega),List.take_of_length_le (l:=pz op') (by omega)] at this
 exact this
theorem MT.start (w0 : World) (v : Value) : MT w0.heap.size w0 v (.slice none 0 0) [] (fun _=>none) [] [] (((w0.alloc (.map #[] 0)).alloc (.map #[] 0)).alloc (.cells #[v,.map (some w0.heap.size),.map (some (w0.heap.size + 1)),.slice none 0 0] 113)):=by
 have h1:=MapH.made w0
 have h2:=MapU.made (w0.alloc (.map #[] 0))
 have h3:=blk_new ((w0.alloc (.map #[] 0)).alloc (.map #[] 0)) #[v,.map (some w0.heap.size),.map (some (w0.heap.size + 1)),.slice none 0 0] 113
 rw [size_alloc] at h2
 rw [size_alloc,size_alloc] at h3
 have b2:=Ba (w0.alloc (.map #[] 0)) (.map #[] 0)
 have b3:=Ba ((w0.alloc (.map #[] 0)).alloc (.map #[] 0)) (.cells #[v,.map (some w0.heap.size),.map (some (w0.heap.size + 1)),.slice none 0 0] 113)
 refine ⟨Bt (Bt (Ba w0 _) b2) b3,h3,h1.frame ?_,h2.frame (b3.block _ (by rw [size_alloc,size_alloc];omega)),World.ownsRow_nil _ _ _ _⟩
 exact (b3.block _ (by rw [size_alloc,size_alloc];omega)).trans (b2.block _ (by rw [size_alloc];omega))
end
def KF (b : Nat) (w w' : World) : Prop:=w.heap.size <= w'.heap.size /\ ∀ k,k < w.heap.size -> k ≠ b + 1 -> w'.heap[k]? = w.heap[k]?
theorem KF.trans {b : Nat} {w w1 w2 : World} (h : KF b w w1) (k : KF b w1 w2) : KF b w w2:=⟨Nat.le_trans h.1 k.1,fun j hj hne=>(k.2 j (Nat.lt_of_lt_of_le hj h.1) hne).trans (h.2 j hj hne)⟩
theorem KF.grown {b : Nat} {w w1 : World} (h : w.grownBy w1 (some (b + 1))) : KF b w w1:=⟨h.size,fun k hk hne=>h.block k hk (fun e=>hne (Option.some.inj e))⟩
section
variable {b : Nat} {w0 : World} {v vO : Value} {q : List Int} {L : Int -> Option Int} {hq op : List (Int × Int)} {O : Hp} {root : Int -> Int} {d : Int -> Nat}
set_option maxHeartbeats 4000000 in
theorem leader_any (x : Int) (hx : U64 x) (w : World) (h : MT b w0 v vO q L hq op w) (hF : FO O L root d) (hl : q.length <= 100000000) :
  Calls Tryz.prog 154 #[.pointer (some ⟨b + 2,0,none⟩),.int .u64 x] w fun e w'=>e = .returned (.int .u64 (root x)) /\ U64 (root x) /\ KF b w w' /\ ∃ L',MT b w0 v vO q L' hq op w' /\ FO O L' root d:=by
 have H0 : Hid (∃ L',MT b w0 v vO q L' hq op w /\ FO O L' root d):=⟨L,h,hF⟩
 have HX:=hid hx
 clear h hF hx
 go_enter Tryz.func154,Tryz.ntmps154
 go_wp2_with fail
 go_loopw [1,5,6,7,8] (fun y _ _ _ _ wr=>∃ z,y = .int .u64 z /\ Hid (U64 z /\ root z = root x /\ KF b w wr /\ ∃ L',MT b w0 v vO q L' hq op wr /\ FO O L' root d)) (fun y _ _ _ _ _=>d (intOf y))
 case atStart=>exact ⟨x,rfl,HX.out,rfl,⟨Nat.le_refl _,fun _ _ _=>rfl⟩,H0.out⟩
 case round =>
  obtain ⟨z,rfl,hI⟩:=hrel
  obtain ⟨hz,hrz,hkf,L',hM,hF⟩:=hI.out
  have HKF:=hid hkf
  have c2 : wr.cell? ⟨b + 2,2,none⟩ = some (.map (some (b + 1))):=blk_cell hM.box 2
  obtain ⟨c,hrun,hc⟩:=hM.ml.look hz
  have HM:=hid hM
  have HF:=hid hF
  have HZ:=hid hz
  have HR:=hid hrz
  cases hL : L' z with
  | none =>
   rw [hL] at hrun
   simp only [Option.isSome_none] at hrun
   have e1:=hF.no z hL
   rw [hrz] at e1
   have HE:=hid e1
   clear hI hM hF hkf hz hrz hc hL e1 H0 HX
   go_wp2_with fail
   go_ret
   rw [HE.out]
   exact ⟨rfl,HZ.out,HKF.out,L',HM.out,HF.out⟩
  | some n =>
   rw [hL] at hrun
   simp only [Option.isSome_some] at hrun
   obtain ⟨rfl,hn⟩:=hc n hL
   obtain ⟨c',hrun2,hc2⟩:=hM.ml.look hn
   obtain ⟨hy1,hy2⟩:=hF.yes z c hL
   have HN:=hid hn
   have HY : Hid (root c = root x):=hy1.trans hrz
   have hdd : Hid (d c < d z):=hy2
   cases hL2 : L' c with
   | none =>
    rw [hL2] at hrun2
    simp only [Option.isSome_none] at hrun2
    clear hI hM hF hkf hz hrz hc hc2 hL hL2 hn hy1 hy2 H0 HX
    go_wp2_with fail
    exact ⟨⟨c,rfl,HN.out,HY.out,HKF.out,L',HM.out,HF.out⟩,by simpa [intOf] using hdd.out⟩
   | some f =>
    rw [hL2] at hrun2
    simp only [Option.isSome_some] at hrun2
    obtain ⟨rfl,hf⟩:=hc2 f hL2
    obtain ⟨w2,hst,hm2,hg2⟩:=hM.ml.store (y:=c') hz hf hl
    have hzq : z∈q:=by
     obtain ⟨D,_,_,h3⟩:=hM.ml
     have:=(h3 z hz).2.1
     rw [hL] at this
     simpa using this.symm
    rw [if_pos hzq] at hm2
    have HM2:=hid (hM.turnL hg2 hm2)
    have HF2:=hid (hF.half hL hL2)
    have HK2:=hid (hkf.trans (KF.grown hg2))
    clear hI hM hF hkf hz hrz hc hc2 hL hL2 hn hy1 hy2 H0 HX hm2 hg2 hf hzq
    go_wp2_with fail
    exact ⟨⟨c,rfl,HN.out,HY.out,HK2.out,_,HM2.out,HF2.out⟩,by simpa [intOf] using hdd.out⟩
def JPost (O : Hp) (b : Nat) (w0 : World) (v vO : Value) (q : List Int) (hq op : List (Int × Int)) (root : Int -> Int) (x y : Int) (w' : World) : Prop :=
 if root x = root y then ∃ L' d',MT b w0 v vO q L' hq op w' /\ FO O L' root d' else ∃ L' d',MT b w0 v vO (q ++ [root y]) L' hq op w' /\ root y ∉ q /\ U64 (root y) /\ FO O L' (joined root (root x) (root y)) d'
set_option maxHeartbeats 4000000 in
theorem ejoin_any (x y : Int) (hx : U64 x) (hy : U64 y) (w : World) (h : MT b w0 v vO q L hq op w) (hF : FO O L root d) (hl : q.length <= 100000000) :
  Calls Tryz.prog 102 #[.pointer (some ⟨b + 2,0,none⟩),.int .u64 x,.int .u64 y] w fun e w'=>e = .returned (.bool (decide (root x ≠ root y))) /\ JPost O b w0 v vO q hq op root x y w' /\ KF b w w':=by
 have C1:=hid (leader_any x hx w h hF hl)
 have C2 : Hid (∀ W L',MT b w0 v vO q L' hq op W -> FO O L' root d -> _):=fun W L' hM hF'=>leader_any y hy W hM hF' hl
 have HL:=hid hl
 clear h hF hx hy hl
 have e0 : decide (root x ≠ root y) = !(root x == root y):=by
  by_cases e : root x = root y
  ·simp [e]
  ·simp [e]
 rw [e0]
 have fin : Hid (∀ W L',root x ≠ root y -> U64 (root x) -> U64 (root y) -> MT b w0 v vO q L' hq op W -> FO O L' root d -> ∃ w2,(Instr.mapUpdate 110 (.map (some (b + 1))) (.int .u64 (root y)) (.int .u64 (root x))).run Tryz.prog W = .ok () w2 /\ JPost O b w0 v vO q hq op root x y w2 /\ KF b W w2):=fun W L' hne hux huy hM hF=>by
  obtain ⟨w2,hst,hm2,hg2⟩:=hM.ml.store (y:=root x) huy hux HL.out
  refine ⟨w2,hst,?_,KF.grown hg2⟩
  have hnq : root y ∉ q:=by
   obtain ⟨D,_,_,h3⟩:=hM.ml
   have:=(h3 (root y) huy).2.1
   rw [hF.top y] at this
   simpa using this.symm
  rw [if_neg hnq] at hm2
  unfold JPost
  rw [if_neg hne]
  exact ⟨_,_,hM.turnL hg2 hm2,hnq,huy,hF.join (hF.top x) (hF.top y) hne⟩
 have fin2 : Hid (root x = root y -> ∀ W L',MT b w0 v vO q L' hq op W -> FO O L' root d -> JPost O b w0 v vO q hq op root x y W):=fun e W L' hM hF=>by
  unfold JPost
  rw [if_pos e]
  exact ⟨_,_,hM,hF⟩
 obtain ⟨rx,hrx⟩ : ∃ r,r = root x:=⟨_,rfl⟩
 obtain ⟨ry,hry⟩ : ∃ r,r = root y:=⟨_,rfl⟩
 rw [<- hrx] at C1 fin fin2
 rw [<- hry] at C2 fin fin2
 rw [<- hrx,<- hry]
 clear hrx hry e0
 by_cases e : rx = ry
 ·have F2 := hid (fin2.out e)
  subst e
  have e1 : (rx == rx) = true:=by simp
  rw [e1]
  clear fin fin2
  go_enter Tryz.func102,Tryz.ntmps102
  go_wp2_with (first
   | (go_at_call 154;(with_reducible refine C1.out.mono ?_);rintro e W1 ⟨rfl,u1,k1,L1,m1,f1⟩;have C3:=hid (C2.out W1 L1 m1 f1);have HK1:=hid k1;clear u1 m1 f1 k1)
   | (go_at_call 154;(with_reducible refine C3.out.mono ?_);rintro e W2 ⟨rfl,u2,k2,L2,m2,f2⟩;have HJ:=hid (F2.out W2 L2 m2 f2);have HK2:=hid (HK1.out.trans k2);clear u2 m2 f2 k2))
  go_ret
  exact ⟨rfl,HJ.out,HK2.out⟩
 ·have F1 := hid (fun W L' => fin.out W L' e)
  have e1 : (rx == ry) = false:=by simp [e]
  rw [e1]
  clear fin fin2 e
  go_enter Tryz.func102,Tryz.ntmps102
  go_wp2_with (first
   | (go_at_call 154;(with_reducible refine C1.out.mono ?_);rintro e W1 ⟨rfl,u1,k1,L1,m1,f1⟩;have C3:=hid (C2.out W1 L1 m1 f1);have HU1:=hid u1;have HK1:=hid k1;clear u1 m1 f1 k1)
   | (go_at_call 154;(with_reducible refine C3.out.mono ?_);rintro e W2 ⟨rfl,u2,k2,L2,m2,f2⟩;obtain ⟨w3,hst,hJ,k3⟩:=F1.out W2 L2 HU1.out u2 m2 f2;have HK2:=hid ((HK1.out.trans k2).trans k3);have c2 : W2.cell? ⟨b + 2,2,none⟩ = some (.map (some (b + 1))):=blk_cell m2.box 2;have HJ:=hid hJ;clear u2 m2 f2 hJ k2 k3))
  go_ret
  exact ⟨rfl,HJ.out,HK2.out⟩
end
theorem nodup_le {α : Type} [BEq α] [LawfulBEq α] : ∀ (W L : List α),W.Nodup -> (∀ x∈W,x∈L) -> W.length <= L.length
 | [],L,_,_=>Nat.zero_le _
 | x :: W,L,hn,hs=>by
  obtain ⟨h1,h2⟩:=List.nodup_cons.1 hn
  have hx : x∈L:=hs x List.mem_cons_self
  have ih:=nodup_le W (L.erase x) h2 (fun y hy=>(List.mem_erase_of_ne (fun e=>h1 (by rw [<- e];exact hy))).2 (hs y (List.mem_cons_of_mem _ hy)))
  rw [List.length_erase_of_mem hx] at ih
  have : 0 < L.length:=List.length_pos_of_mem hx
  simp;omega
def Ow (os : List Ob) (x : Int) : Prop:=hpO os x ≠ none /\ U64 x
theorem ow_some {os : List Ob} {x : Int} (h : Ow os x) : ∃ k,findM os x = some k:=by
 cases e : findM os x with
 | none=>exact absurd (hp_none e) h.1
 | some k=>exact ⟨k,rfl⟩
theorem ow_in {os : List Ob} {x : Int} (hu : usedL os <= 4194304) (h : Ow os x) : x∈ptrsL os:=by
 obtain ⟨k,hk⟩:=ow_some h
 have hl:=(findM_lt hk).1
 refine List.mem_map.2 ⟨k,List.mem_range.2 hl,?_⟩
 exact find_same (wordR_rng _ _ _) h.2 (find_ptr hl (by omega)) hk
theorem ptrsL_len (os : List Ob) : (ptrsL os).length = os.length:=by simp [ptrsL]
theorem os_le (os : List Ob) : os.length <= usedL os:=by
 induction os with
 | nil=>exact Nat.zero_le _
 | cons x l ih=>simp only [usedL,List.length_cons];omega
theorem may_ow {os : List Ob} {x y : Int} (h : May (hpO os) x y) : hpO os x ≠ none /\ hpO os y ≠ none:=by
 obtain ⟨k,f,g,h1,h2,_⟩:=h
 rw [h1,h2];exact ⟨by simp,by simp⟩
theorem mayB_iff {os : List Ob} (ho : OsOk os) (x y : Int) : mayB os x y = true ↔ May (hpO os) x y:=by
 unfold mayB stM kindM sizeM May
 cases e1 : findM os x with
 | none =>
  simp only
  refine ⟨fun h=>?_,fun ⟨k,f,g,h1,_⟩=>by rw [hp_none e1] at h1;cases h1⟩
  exfalso
  revert h
  split <;> simp
 | some i =>
  have hki:=ho.kd _ (getD_in_os (findM_lt e1).1)
  cases e2 : findM os y with
  | none =>
   simp only
   refine ⟨fun h=>?_,fun ⟨k,f,g,_,h2,_⟩=>by rw [hp_none e2] at h2;cases h2⟩
   exfalso
   rw [if_neg (by omega)] at h
   revert h;simp
  | some k =>
   simp only [Bool.or_eq_true,Bool.and_eq_true,decide_eq_true_eq]
   rw [hp_some e1,hp_some e2]
   constructor
   ·intro h
    by_cases e : (os.getD i default).kind = (os.getD k default).kind
    ·rw [if_pos e] at h
     refine ⟨_,_,_,rfl,by rw [e],?_⟩
     rcases h with h | h
     ·exact .inr ⟨h.1,by have:=h.2;omega⟩
     ·exact .inl h
    ·rw [if_neg e] at h;omega
   ·rintro ⟨kd, f, g, h1, h2, h3⟩
    injection h1 with h1
    injection h1 with a1 a2
    injection h2 with h2
    injection h2 with b1 b2
    subst a1 a2 b2
    rw [if_pos b1.symm]
    rcases h3 with h3 | ⟨h3,h4⟩
    ·exact .inr h3
    ·exact .inl ⟨h3,by omega⟩
structure US where
 root : Int -> Int
 d : Int -> Nat
 L : Int -> Option Int
 q : List Int
 hq : List (Int × Int)
 op : List (Int × Int)
 G : List (Int × Int)
 vO : Value
structure MG (os : List Ob) (a0 b0 : Int) (cur : Int × Int -> Prop) (M : Nat) (S : US) : Prop where
 uf : UF (hpO os) S.root S.G
 fo : FO (hpO os) S.L S.root S.d
 hd : ∀ p∈S.hq,S.root p.1 = S.root p.2
 ho : ∀ p∈S.hq,Ow os p.1 /\ Ow os p.2
 hn : S.hq.Nodup
 opm : ∀ p∈S.op,May (hpO os) p.1 p.2 /\ U64 p.1 /\ U64 p.2 /\ p.1 ≠ p.2
 dn : ∀ p∈S.G,p∈S.op \/ cur p \/ Done (hpO os) S.root p.1 p.2
 al : Alike (hpO os) a0 b0 -> ∀ p∈S.op,Alike (hpO os) p.1 p.2
 qo : ∀ z∈S.q,Ow os z
 qn : S.q.Nodup
 me : 2 * leads (ptrsL os) S.root + S.op.length <= M
section
variable {os : List Ob} {a0 b0 : Int} {cur : Int × Int -> Prop} {M : Nat} {S : US}
theorem MG.qlen (h : MG os a0 b0 cur M S) (hu : usedL os <= 4194304) : S.q.length <= 4194304:=by
 have:=nodup_le S.q (ptrsL os) h.qn (fun x hx=>ow_in hu (h.qo x hx))
 rw [ptrsL_len] at this
 have:=os_le os
 omega
theorem MG.hlen (h : MG os a0 b0 cur M S) (hu : usedL os <= 4194304) : S.hq.length <= 4194304 * 4194304:=by
 have h1:=nodup_le S.hq ((ptrsL os).flatMap (fun a=>(ptrsL os).map (fun b=>(a,b)))) h.hn (fun p hp=>by
  obtain ⟨h1,h2⟩:=h.ho p hp
  exact List.mem_flatMap.2 ⟨p.1,ow_in hu h1,List.mem_map.2 ⟨p.2,ow_in hu h2,rfl⟩⟩)
 have h2 : ((ptrsL os).flatMap (fun a=>(ptrsL os).map (fun b=>(a,b)))).length = os.length * os.length:=by
  rw [List.length_flatMap]
  have : (ptrsL os).map (fun a=>((ptrsL os).map (fun b=>(a,b))).length) = List.replicate os.length os.length:=by
   apply List.ext_getElem?
   intro i
   rw [List.getElem?_map,List.getElem?_replicate]
   by_cases hi : i < os.length
   ·rw [if_pos hi, List.getElem?_eq_getElem (by rw [ptrsL_len]; exact hi)]
    simp [ptrsL_len]
   ·rw [if_neg hi,List.getElem?_eq_none (by rw [ptrsL_len];omega)];rfl
  rw [this,List.sum_replicate_nat]
 have h3:=os_le os
 have h4 : os.length * os.length <= 4194304 * 4194304:=Nat.mul_le_mul (by omega) (by omega)
 omega
theorem MG.start (os : List Ob) (a0 b0 : Int) : MG os a0 b0 (fun _=>False) (2 * os.length) ⟨id,fun _=>0,fun _=>none,[],[],[],[],.slice none 0 0⟩:=by
 refine ⟨UF.start _,⟨fun x _=>rfl,fun x n h=>(by cases h)⟩,fun p hp=>(by cases hp),fun p hp=>(by cases hp),List.nodup_nil,fun p hp=>(by cases hp),fun p hp=>(by cases hp),fun _ p hp=>(by cases hp),fun p hp=>(by cases hp),List.nodup_nil,?_⟩
 have : leads (ptrsL os) id <= (ptrsL os).length:=List.length_filter_le _ _
 rw [ptrsL_len] at this
 show 2 * leads (ptrsL os) id + 0 <= _
 omega
theorem MG.same (h : MG os a0 b0 cur M S) {x y : Int} {L' : Int -> Option Int} {d' : Int -> Nat} (hm : May (hpO os) x y) (hx : U64 x) (hy : U64 y) (hnm : (x,y) ∉ S.hq) (e : S.root x = S.root y) (hF : FO (hpO os) L' S.root d') : MG os a0 b0 cur M ⟨S.root,d',L',S.q,S.hq ++ [(x,y)],S.op,S.G,S.vO⟩:=by
 have hw:=may_ow hm
 refine ⟨h.uf,hF,fun p hp=>?_,fun p hp=>?_,?_,h.opm,h.dn,h.al,h.qo,h.qn,h.me⟩
 ·rcases List.mem_append.1 hp with hp | hp
  ·exact h.hd p hp
  ·obtain rfl:=List.mem_singleton.1 hp;exact e
 ·rcases List.mem_append.1 hp with hp | hp
  ·exact h.ho p hp
  ·obtain rfl:=List.mem_singleton.1 hp;exact ⟨⟨hw.1,hx⟩,hw.2,hy⟩
 ·refine List.nodup_append.2 ⟨h.hn, by simp, fun a ha b hb => ?_⟩
  obtain rfl:=List.mem_singleton.1 hb
  intro e';subst e';exact hnm ha
theorem MG.join (h : MG os a0 b0 cur M S) {x y : Int} {L' : Int -> Option Int} {d' : Int -> Nat} (vO' : Value) (hu : usedL os <= 4194304) (hm : May (hpO os) x y) (hx : U64 x) (hy : U64 y) (hry : U64 (S.root y)) (hnm : (x,y) ∉ S.hq) (e : S.root x ≠ S.root y) (hnq : S.root y ∉ S.q) (hF : FO (hpO os) L' (joined S.root (S.root x) (S.root y)) d') (ha : Alike (hpO os) a0 b0 -> Alike (hpO os) x y) :
  MG os a0 b0 cur M ⟨joined S.root (S.root x) (S.root y),d',L',S.q ++ [S.root y],S.hq ++ [(x,y)],S.op ++ [(x,y)],(x,y) :: S.G,vO'⟩:=by
 have hw:=may_ow hm
 have hrel:=(h.uf.join hw.1 hw.2 e)
 refine ⟨hrel,hF,fun p hp=>?_,fun p hp=>?_,?_,fun p hp=>?_,fun p hp=>?_,fun ha0 p hp=>?_,fun z hz=>?_,?_,?_⟩
 ·rcases List.mem_append.1 hp with hp | hp
  ·exact joined_mono _ _ (h.hd p hp)
  ·obtain rfl:=List.mem_singleton.1 hp;exact hrel.rel (x,y) List.mem_cons_self
 ·rcases List.mem_append.1 hp with hp | hp
  ·exact h.ho p hp
  ·obtain rfl:=List.mem_singleton.1 hp;exact ⟨⟨hw.1,hx⟩,hw.2,hy⟩
 ·refine List.nodup_append.2 ⟨h.hn, by simp, fun a ha b hb => ?_⟩
  obtain rfl:=List.mem_singleton.1 hb
  intro e';subst e';exact hnm ha
 ·rcases List.mem_append.1 hp with hp | hp
  ·exact h.opm p hp
  ·obtain rfl:=List.mem_singleton.1 hp;exact ⟨hm,hx,hy,fun e'=>e (congrArg S.root e')⟩
 ·rcases List.mem_cons.1 hp with rfl | hp
  ·exact .inl (List.mem_append_right _ (List.mem_singleton.2 rfl))
  ·rcases h.dn p hp with h1 | h1 | h1
   ·exact .inl (List.mem_append_left _ h1)
   ·exact .inr (.inl h1)
   ·exact .inr (.inr (h1.mono (fun a b=>joined_mono a b)))
 ·rcases List.mem_append.1 hp with hp | hp
  ·exact h.al ha0 p hp
  ·obtain rfl:=List.mem_singleton.1 hp;exact ha ha0
 ·rcases List.mem_append.1 hz with hz | hz
  ·exact h.qo z hz
  ·obtain rfl:=List.mem_singleton.1 hz;exact ⟨h.uf.obj y hw.2,hry⟩
 ·refine List.nodup_append.2 ⟨h.qn, by simp, fun a ha b hb => ?_⟩
  obtain rfl:=List.mem_singleton.1 hb
  intro e';subst e';exact hnq ha
 ·have h1 := h.uf.less (P := ptrsL os) (a := x) (b := y) (ow_in hu ⟨h.uf.obj y hw.2, hry⟩) e
  have h2:=h.me
  show 2 * leads (ptrsL os) (joined S.root (S.root x) (S.root y)) + (S.op ++ [(x,y)]).length <= M
  rw [List.length_append,List.length_singleton]
  omega
theorem MG.take {p : Int × Int} {op' : List (Int × Int)} (h : MG os a0 b0 (fun _=>False) M S) (hop : S.op = op' ++ [p]) (vO' : Value) : MG os a0 b0 (fun r=>r = p) (M - 1) ⟨S.root,S.d,S.L,S.q,S.hq,op',S.G,vO'⟩:=by
 have hsub : ∀ r∈op',r∈S.op:=fun r hr=>by rw [hop];exact List.mem_append_left _ hr
 refine ⟨h.uf,h.fo,h.hd,h.ho,h.hn,fun r hr=>h.opm r (hsub r hr),fun r hr=>?_,fun ha r hr=>h.al ha r (hsub r hr),h.qo,h.qn,?_⟩
 ·rcases h.dn r hr with h1 | h1 | h1
  ·rw [hop] at h1
   rcases List.mem_append.1 h1 with h1 | h1
   ·exact .inl h1
   ·exact .inr (.inl (List.mem_singleton.1 h1))
  ·exact absurd h1 id
  ·exact .inr (.inr h1)
 ·have := h.me
  rw [hop,List.length_append,List.length_singleton] at this
  show 2 * leads (ptrsL os) S.root + op'.length <= M - 1
  omega
theorem MG.done {p : Int × Int} (h : MG os a0 b0 (fun r=>r = p) M S) (hd : Done (hpO os) S.root p.1 p.2) : MG os a0 b0 (fun _=>False) M S :=
 ⟨h.uf,h.fo,h.hd,h.ho,h.hn,h.opm,fun r hr=>by
  rcases h.dn r hr with h1 | h1 | h1
  ·exact .inl h1
  ·subst h1;exact .inr (.inr hd)
  ·exact .inr (.inr h1),h.al,h.qo,h.qn,h.me⟩
theorem MG.alike (h : MG os a0 b0 (fun _=>False) M S) (he : S.op = []) {x y : Int} (hxy : S.root x = S.root y) : Alike (hpO os) x y:=by
 refine h.uf.alike (fun p hp=>?_) hxy
 rcases h.dn p hp with h1 | h1 | h1
 ·rw [he] at h1;cases h1
 ·exact absurd h1 id
 ·exact h1
end
theorem own_lit {w : World} {g n k : Nat} {e : TypeId} {cs : Array Value} {xs : List Value} (h : w.heap[g]? = some (.cells cs e (0,0))) (hx : cs.toList = xs) (hk : xs.length = n * k) (hn : n <= 1000) (base : Nat) (hb : base <= g) : w.ownsRow base e k (.slice (some ⟨g,0,none⟩) n n) n xs:=by
 refine ⟨hk,.inr ⟨g,n,cs,rfl,hb,h,Nat.le_refl _,by unfold maxLen;omega,?_,?_⟩⟩
 ·rw [<- Array.length_toList,hx,hk]
 ·rw [hx,List.take_of_length_le (by omega)]
theorem lit_ints {w : World} {g n : Nat} {cs : Array Value} {l : List Int} (h : w.heap[g]? = some (.cells cs 3 (0,0))) (hx : cs.toList = cz l) (hl : l.length = n) (hn : n <= 1000) (hb : ∀ z∈l,I64 z) : IRow w (some ⟨g,0,none⟩) n n l:=by
 subst hl
 obtain ⟨ao,cap,e,hr⟩:=irow_of (own_lit h hx (by rw [cz_length];omega) hn 0 (Nat.zero_le _)) hb
 cases e
 exact hr
end Go.Proofs.YticimejfjjmikaaGreatDoor
