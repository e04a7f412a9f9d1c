import Derived.Test.YticimejfjjmikaaGreatDoorSL32
set_option linter.unusedVariables false
set_option linter.unusedSimpArgs false
set_option maxRecDepth 100000
namespace Go.Proofs.YticimejfjjmikaaGreatDoor
open Go.RowKit
theorem zmo : ∀ (W L : List Int),W.Nodup -> (∀ x∈W,x∈L) -> W.length <= L.length
 | [],L,_,_=>Nat.zero_le _
 | x :: W,L,hn,hs=>by
  obtain ⟨h1,h2⟩:=List.nodup_cons.1 hn
  have hx : x∈L:=hs x List.mem_cons_self
  have ih:=zmo W (L.erase x) h2 (fun y hy=>(List.mem_erase_of_ne (fun e=>h1 (by rw [<- e];exact hy))).2 (hs y (List.mem_cons_of_mem _ hy)))
  rw [List.length_erase_of_mem hx] at ih
  have : 0 < L.length:=List.length_pos_of_mem hx
  simp;omega
theorem zjr {a c : List Int} {i : Nat} (h : a <+: c) (hi : i < a.length) : c.getD i 0 = a.getD i 0:=by
 obtain ⟨d,rfl⟩:=h
 rw [List.getD_eq_getElem?_getD,List.getD_eq_getElem?_getD,List.getElem?_append_left hi]
theorem zbg1 {a : List Int} {x : Int} (h : x∈a) : a.getD (a.idxOf x) 0 = x:=by
 have hl:=List.idxOf_lt_length_iff.2 h
 rw [List.getD_eq_getElem?_getD,List.getElem?_eq_getElem hl]
 simp
theorem zxq {W l : List Int} {k : Int} (h : k∈plL W l) : 0 <= k /\ k < (metW W l).length:=by
 unfold plL at h
 obtain ⟨x,hx,rfl⟩:=List.mem_map.1 h
 have:=List.idxOf_lt_length_iff.2 (zon (W:=W) hx)
 omega
theorem zcj1 (W l : List Int) : (plL W l).map (fun k=>(metW W l).getD k.toNat 0) = l:=by
 unfold plL
 rw [List.map_map]
 conv=>rhs;rw [<- List.map_id l]
 refine List.map_congr_left (fun x hx=>?_)
 show (metW W l).getD (((metW W l).idxOf x : Nat) : Int).toNat 0 = x
 rw [Int.toNat_natCast]
 exact zbg1 (zon hx)
theorem zhl1 (W l : List Int) : (plL W l).length = l.length:=by simp [plL]
structure MI (D : Int -> Nd) (rts W rs : List Int) (ns : List Nd) : Prop where
 nd : W.Nodup
 u : ∀ x∈W,U64 x
 rch : ∀ x∈W,Rch D rts x
 len : ns.length <= W.length
 node : ∀ i,i < ns.length -> yw (ns.getD i default) (D (W.getD i 0))
 kids : ∀ i,i < ns.length -> (ns.getD i default).kids.map (fun k=>W.getD k.toNat 0) = (D (W.getD i 0)).kids
 kr : ∀ i,i < ns.length -> ∀ k∈(ns.getD i default).kids,0 <= k /\ k < W.length
 rts : rs.map (fun k=>W.getD k.toNat 0) = rts
 rr : ∀ k∈rs,0 <= k /\ k < W.length
section
variable {D : Int -> Nd} {rts W rs : List Int} {ns : List Nd}
theorem MI.start (D : Int -> Nd) (rts : List Int) (hu : ∀ x∈rts,U64 x) : MI D rts (metW [] rts) (plL [] rts) []:=by
 have hs : ∀ x∈metW [] rts,x∈rts:=fun x hx=>by
  rcases zjq hx with h | h
  ·cases h
  ·exact h
 exact ⟨zgu _ List.nodup_nil,fun x hx=>hu x (hs x hx),fun x hx=>.root (hs x hx),Nat.zero_le _,fun i hi=>by simp at hi,fun i hi=>by simp at hi,fun i hi=>by simp at hi,zcj1 _ _,fun k hk=>zxq hk⟩
theorem zxr {W W' l : List Int} (h : W <+: W') (hr : ∀ k∈l,0 <= k /\ k < (W.length : Int)) : l.map (fun k=>W'.getD k.toNat 0) = l.map (fun k=>W.getD k.toNat 0) :=
 List.map_congr_left (fun k hk=>zjr h (by have:=hr k hk;omega))
theorem zck {ns : List Nd} {d : Nd} {i : Nat} (h : i < ns.length) : (ns ++ [d]).getD i default = ns.getD i default:=by
 rw [List.getD_eq_getElem?_getD,List.getD_eq_getElem?_getD,List.getElem?_append_left h]
theorem zcl (ns : List Nd) (d : Nd) : (ns ++ [d]).getD ns.length default = d:=by
 rw [List.getD_eq_getElem?_getD,List.getElem?_append_right (Nat.le_refl _),Nat.sub_self];rfl
theorem MI.step (h : MI D rts W rs ns) (hl : ns.length < W.length) {d : Nd} (hd : yw d (D (W.getD ns.length 0))) (hk : d.kids = plL W (D (W.getD ns.length 0)).kids) (hu : ∀ y∈(D (W.getD ns.length 0)).kids,U64 y) :
  MI D rts (metW W (D (W.getD ns.length 0)).kids) rs (ns ++ [d]):=by
 have hp : W <+: metW W (D (W.getD ns.length 0)).kids:=zom _ _
 have hpl:=hp.length_le
 have hx : W.getD ns.length 0∈W:=ji hl
 refine ⟨zgu _ h.nd,fun x hx=>?_,fun x hx'=>?_,by rw [List.length_append,List.length_singleton];omega,fun i hi=>?_,fun i hi=>?_,fun i hi k hk'=>?_,(zxr hp h.rr).trans h.rts,fun k hk=>by have:=h.rr k hk;omega⟩
 ·rcases zjq hx with e | e
  ·exact h.u x e
  ·exact hu x e
 ·rcases zjq hx' with e | e
  ·exact h.rch x e
  ·exact .kid (h.rch _ hx) e
 ·rw [List.length_append, List.length_singleton] at hi
  rw [zjr hp (by omega)]
  by_cases e : i < ns.length
  ·rw [zck e];exact h.node i e
  ·obtain rfl : i = ns.length := by omega
   rw [zcl];exact hd
 ·rw [List.length_append, List.length_singleton] at hi
  rw [zjr hp (by omega)]
  by_cases e : i < ns.length
  ·rw [zck e,zxr hp (h.kr i e)];exact h.kids i e
  ·obtain rfl : i = ns.length := by omega
   rw [zcl,hk];exact zcj1 _ _
 ·rw [List.length_append, List.length_singleton] at hi
  by_cases e : i < ns.length
  ·rw [zck e] at hk';have:=h.kr i e k hk';omega
  ·obtain rfl : i = ns.length := by omega
   rw [zcl,hk] at hk';exact zxq hk'
theorem MI.told (h : MI D rts W rs ns) (hl : ns.length = W.length) : Told D rts W ns rs:=by
 refine ⟨hl.symm,h.node,h.kids,fun i hi k hk=>by rw [hl];exact h.kr i hi k hk,h.rts,fun k hk=>by rw [hl];exact h.rr k hk,fun i j hi hj e=>.inl ?_⟩
 rw [List.getD_eq_getElem?_getD,List.getD_eq_getElem?_getD,List.getElem?_eq_getElem (by omega),List.getElem?_eq_getElem (by omega)] at e
 exact zcw h.nd (by omega) (by omega) (by simpa using e)
theorem MI.le (h : MI D rts W rs ns) {L : List Int} (hL : ∀ x,Rch D rts x -> x∈L) : W.length <= L.length:=zmo W L h.nd (fun x hx=>hL x (h.rch x hx))
theorem MI.klen (h : MI D rts W rs ns) {i : Nat} (hi : i < ns.length) : (ns.getD i default).kids.length = (D (W.getD i 0)).kids.length:=by
 rw [<- h.kids i hi,List.length_map]
theorem MI.fine (h : MI D rts W rs ns) (hl : ns.length = W.length) (hok : ∀ x,okD (D x) = true) {L : List Int} (hL : ∀ x,Rch D rts x -> x∈L) (hll : L.length <= 2400) (hk : ∀ x∈L,(D x).kids.length <= 100 /\ (D x).text.size <= 2000) : Fine ns rs 300001 /\ qj ns:=by
 have hle:=h.le hL
 have key : ∀ d∈ns,d.kids.length <= 100 /\ d.text.size <= 2000:=fun d hd=>by
  obtain ⟨i,hi,rfl⟩:=List.getElem_of_mem hd
  have e : ns.getD i default = ns[i]:=by rw [List.getD_eq_getElem?_getD,List.getElem?_eq_getElem hi];rfl
  have h1:=h.klen hi
  have h2:=(h.node i hi).2.2
  have h3:=hk _ (hL _ (h.rch _ (ji (i:=i) (by omega))))
  rw [e] at h1 h2
  rw [h1,h2];exact h3
 exact ⟨⟨(h.told hl).good (fun x _=>hok x),fun d hd=>(key d hd).1,by omega,by omega⟩,fun d hd=>(key d hd).2⟩
end
theorem zim1 {d : Nd} (h : okD d = true) (ht : d.text.size <= 2000) : NdOk d:=by
 unfold okD at h
 rw [Bool.and_eq_true,Bool.and_eq_true,Bool.and_eq_true,Bool.and_eq_true,decide_eq_true_eq,decide_eq_true_eq] at h
 obtain ⟨⟨⟨⟨h1,h2⟩,h3⟩,_⟩,_⟩:=h
 refine ⟨by unfold I64;omega,?_,by unfold maxLen;omega⟩
 unfold numB at h3
 split at h3
 ·rw [Bool.or_eq_true,decide_eq_true_eq,decide_eq_true_eq] at h3;unfold I64;omega
 ·split at h3
  ·unfold letB at h3;simp at h3;unfold I64;omega
  ·split at h3
   ·rw [Bool.and_eq_true,decide_eq_true_eq,decide_eq_true_eq] at h3;unfold I64;omega
   ·rw [decide_eq_true_eq] at h3;unfold I64;omega
theorem zbh1 {w : World} {base base' : Nat} {e : TypeId} {k : Nat} {v : Value} {n : Nat} {xs : List Value} (h : w.ownsRow base e k v n xs) (hb : base' <= base) : w.ownsRow base' e k v n xs:=by
 refine ⟨h.1,?_⟩
 rcases h.2 with h0 | ⟨g,cap,cur,h1,h2,h3,h4⟩
 ·exact .inl h0
 ·exact .inr ⟨g,cap,cur,h1,Nat.le_trans hb h2,h3,h4⟩
structure QS (b : Nat) (w0 : World) (v vn vo vW vN : Value) (go nr : Nat) (rs W : List Int) (xs : List (Nd × (Option Addr × Nat × Nat))) (w : World) : Prop where
 sh : SH b w0 v vn vW W W w
 gb : b + 2 <= go
 box : w.heap[go]? = some (.cells #[vN,vo] 34 (0,0))
 ro : w.ownsRow (b + 2) 3 1 vo nr (iz rs)
 rob : ∀ k,vo.ownBlock = some k -> k < go
 nodes : NOwn (go + 1) w vN xs
 wgo : vW.ownBlock ≠ some go
 wro : ∀ k,vo.ownBlock = some k -> vW.ownBlock ≠ some k
 wn : ∀ k,vN.ownBlock = some k -> vW.ownBlock ≠ some k
 wk : ∀ x∈xs,∀ ad,x.2.1 = some ad -> vW.ownBlock ≠ some ad.block
section
variable {b go nr : Nat} {w0 w w' : World} {v vn vo vW vN vW' : Value} {rs W W' : List Int} {xs : List (Nd × (Option Addr × Nat × Nat))}
theorem QS.glt (h : QS b w0 v vn vo vW vN go nr rs W xs w) : go < w.heap.size:=(Array.getElem?_eq_some_iff.1 h.box).1
theorem QS.move (h : QS b w0 v vn vo vW vN go nr rs W xs w) (hsh : SH b w0 v vn vW' W' W' w') (hsz : w.heap.size <= w'.heap.size) (hk : ∀ k,k < w.heap.size -> k ≠ b -> k ≠ b + 1 -> vW.ownBlock ≠ some k -> w'.heap[k]? = w.heap[k]?) (hb : ∀ k,vW'.ownBlock = some k -> vW.ownBlock = some k \/ w.heap.size <= k) :
  QS b w0 v vn vo vW' vN go nr rs W' xs w':=by
 have hg:=h.gb
 have hgl:=h.glt
 refine ⟨hsh,h.gb,(hk go hgl (by omega) (by omega) h.wgo).trans h.box,yq h.ro (fun k e=>?_),h.rob,⟨yq h.nodes.own (fun k e=>?_),fun x hx=>⟨(h.nodes.kids x hx).1.frame hsz (fun ad e=>?_),fun ad e=>?_⟩,h.nodes.ok⟩,fun e=>?_,fun k e e'=>?_,fun k e e'=>?_,fun x hx ad e e'=>?_⟩
 ·have := h.ro.lt k e
  exact hk k this.2 (by omega) (by omega) (h.wro k e)
 ·have := h.nodes.own.lt k e
  exact hk k this.2 (by omega) (by omega) (h.wn k e)
 ·have := (h.nodes.kids x hx).2 ad e
  exact hk ad.block this.2.1 (by omega) (by omega) (h.wk x hx ad e)
 ·have := (h.nodes.kids x hx).2 ad e
  exact ⟨this.1,Nat.lt_of_lt_of_le this.2.1 hsz,this.2.2⟩
 ·rcases hb go e with e | e
  ·exact h.wgo e
  ·omega
 ·rcases hb k e' with e' | e'
  ·exact h.wro k e e'
  ·have:=(h.ro.lt k e).2;omega
 ·rcases hb k e' with e' | e'
  ·exact h.wn k e e'
  ·have:=(h.nodes.own.lt k e).2;omega
 ·rcases hb _ e' with e' | e'
  ·exact h.wk x hx ad e e'
  ·have:=((h.nodes.kids x hx).2 ad e).2.1;omega
theorem QS.on (h : QS b w0 v vn vo vW vN go nr rs W xs w) (hb : Below w.heap.size w w') : QS b w0 v vn vo vW vN go nr rs W xs w' :=
 h.move (h.sh.on hb) hb.size (fun k hk _ _ _=>hb.block k hk) (fun k e=>.inl e)
theorem QS.push {g cap : Nat} {d : Nd × (Option Addr × Nat × Nat)} (h : QS b w0 v vn vo vW vN go nr rs W xs w)
  (ho : w'.ownsRow (go + 1) 54 4 (.slice (some ⟨g,0,none⟩) (xs.length + 1) cap) (xs.length + 1) (ncs xs ++ nc d)) (hg : w.grownBy w' vN.ownBlock) (hl : vN.ownBlock = some g \/ g = w.heap.size) (hd : NdOk d.1)
  (hk : IRow w d.2.1 d.2.2.1 d.2.2.2 d.1.kids) (hkb : ∀ ad,d.2.1 = some ad -> go + 1 <= ad.block /\ ad.block < w.heap.size /\ vN.ownBlock ≠ some ad.block /\ vW.ownBlock ≠ some ad.block) :
  QS b w0 v vn vo vW (.slice (some ⟨g,0,none⟩) (xs.length + 1) cap) go nr rs W (xs ++ [d]) (w'.setCell ⟨go,0,none⟩ (.slice (some ⟨g,0,none⟩) (xs.length + 1) cap)) /\ w'.frozen? ⟨go,0,none⟩ = false /\ w'.cell? ⟨go,0,none⟩ = some vN:=by
 have hgb:=h.gb
 have hgl:=h.glt
 have hN : ∀ k,vN.ownBlock = some k -> go + 1 <= k:=fun k e=>(h.nodes.own.lt k e).1
 have hfar:=nfar h.nodes hg h.box (by omega)
 have hset : ∀ k,k ≠ go -> (w'.setCell ⟨go,0,none⟩ (.slice (some ⟨g,0,none⟩) (xs.length + 1) cap)).heap[k]? = w'.heap[k]?:=fun k hne=>Below.heap_setCell _ _ _ _ hne
 have hkk : ∀ k,k < w.heap.size -> k ≠ go -> vN.ownBlock ≠ some k -> (w'.setCell ⟨go,0,none⟩ (.slice (some ⟨g,0,none⟩) (xs.length + 1) cap)).heap[k]? = w.heap[k]?:=fun k h1 h2 h3=>(hset k h2).trans (hg.block k h1 (fun e=>h3 e.symm))
 have hlow : ∀ k,k < go -> (w'.setCell ⟨go,0,none⟩ (.slice (some ⟨g,0,none⟩) (xs.length + 1) cap)).heap[k]? = w.heap[k]?:=fun k hkg=>hkk k (by omega) (by omega) (fun e=>by have:=hN k e;omega)
 have hgo : w'.heap[go]? = w.heap[go]?:=hg.block go hgl (fun e=>by have:=hN go e.symm;omega)
 have hsz : (w'.setCell ⟨go,0,none⟩ (.slice (some ⟨g,0,none⟩) (xs.length + 1) cap)).heap.size = w'.heap.size:=by simp [World.setCell]
 refine ⟨⟨⟨?_,(hlow _ (by omega)).trans h.sh.box,h.sh.mp.frame (hlow _ (by omega)),yq h.sh.ow (fun k e=>?_)⟩,h.gb,?_,yq h.ro (fun k e=>hlow k (h.rob k e)),h.rob,h.nodes.pushed (by omega) ho hg hl hd hk (fun ad e=>⟨(hkb ad e).1,(hkb ad e).2.1,(hkb ad e).2.2.1⟩),h.wgo,h.wro,fun k e e'=>?_,fun x hx ad e=>?_⟩,hfar.1,hfar.2⟩
 ·exact (h.sh.bel.trans ⟨hg.os,hg.tape,hg.output,hg.size,fun k hk'=>hg.block k (by omega) (fun e=>by have:=hN k e.symm;omega)⟩).setCell (p:=⟨go,0,none⟩) (by show b <= go;omega) _
 ·exact hkk k (h.sh.ow.lt k e).2 (fun e'=>h.wgo (by rw [<- e'];exact e)) (fun e'=>h.wn k e' e)
 ·rw [zy (i:=0) (hgo.trans h.box)];rfl
 ·have e2 : g = k := Option.some.inj e
  subst e2
  rcases hl with e2 | e2
  ·exact h.wn g e2 e'
  ·have:=(h.sh.ow.lt g e').2;omega
 ·rcases List.mem_append.1 hx with hx | hx
  ·exact h.wk x hx ad e
  ·obtain rfl := List.mem_singleton.1 hx
   exact (hkb ad e).2.2.2
theorem zbi1 {vWi : Value} {wi w3 : World} (p : POw b w0 v vn vWi wi vo vW nr rs W W w3) : QS b w0 v vn vo vW (.slice none 0 0) w3.heap.size nr rs W [] (w3.alloc (.cells #[.slice none 0 0,vo] 34)):=by
 have h1:=p.on (Ba w3 (.cells #[.slice none 0 0,vo] 34))
 have hlt:=p.lt
 have hsz:=p.oth.size
 refine ⟨h1.sh,by omega,zd _ _ _,zbh1 h1.own hlt,fun k e=>(p.own.lt k e).2,NOwn.nil _ _,fun e=>?_,p.ne,fun k e=>(by cases e),fun x hx=>(by cases hx)⟩
 have:=(p.sh.ow.lt _ e).2
 omega
theorem zxs {w1 w3 : World} {k m : Int} {t : ByteArray} {ao : Option Addr} {nk co : Nat} {pl : List Int} (h : QS b w0 v vn vo vW vN go nr rs W xs w1)
  (p : POw b w0 v vn vW (w1.alloc (.cells #[.int .i64 k,.int .i64 m,.string t,.slice none 0 0] 54)) (.slice ao nk co) vW' nk pl W' W' w3) (hu : ∀ z∈pl,I64 z) :
  w3.heap[w1.heap.size]? = some (.cells #[.int .i64 k,.int .i64 m,.string t,.slice none 0 0] 54 (0,0)) /\
  (w3.setCell ⟨w1.heap.size,3,none⟩ (.slice ao nk co)).heap[w1.heap.size]? = some (.cells #[.int .i64 k,.int .i64 m,.string t,.slice ao nk co] 54 (0,0)) /\
  QS b w0 v vn vo vW' vN go nr rs W' xs (w3.setCell ⟨w1.heap.size,3,none⟩ (.slice ao nk co)) /\
  IRow (w3.setCell ⟨w1.heap.size,3,none⟩ (.slice ao nk co)) ao nk co pl /\
  (∀ ad,ao = some ad -> go + 1 <= ad.block /\ ad.block < (w3.setCell ⟨w1.heap.size,3,none⟩ (.slice ao nk co)).heap.size /\ vN.ownBlock ≠ some ad.block /\ vW'.ownBlock ≠ some ad.block):=by
 have hgl:=h.glt
 have hgb:=h.gb
 have hs2 : (w1.alloc (.cells #[.int .i64 k,.int .i64 m,.string t,.slice none 0 0] 54)).heap.size = w1.heap.size + 1:=zb _ _
 have hnew:=zd w1 #[.int .i64 k,.int .i64 m,.string t,.slice none 0 0] 54
 have hbA:=Ba w1 (.cells #[.int .i64 k,.int .i64 m,.string t,.slice none 0 0] 54)
 obtain ⟨w2,hw2⟩ : ∃ w2,w2 = w1.alloc (.cells #[.int .i64 k,.int .i64 m,.string t,.slice none 0 0] 54):=⟨_,rfl⟩
 rw [<- hw2] at p hs2 hnew hbA
 have hWlt : ∀ j,vW.ownBlock = some j -> j < w1.heap.size:=fun j e=>(h.sh.ow.lt j e).2
 have hsz:=p.oth.size
 have h3 : w3.heap[w1.heap.size]? = some (.cells #[.int .i64 k,.int .i64 m,.string t,.slice none 0 0] 54 (0,0)):=(p.oth.blk w1.heap.size (by omega) (by omega) (by omega) (fun e=>by have:=hWlt _ e;omega)).trans hnew
 have hset : ∀ j,j ≠ w1.heap.size -> (w3.setCell ⟨w1.heap.size,3,none⟩ (.slice ao nk co)).heap[j]? = w3.heap[j]?:=fun j hne=>Below.heap_setCell _ _ _ _ hne
 have hsz4 : (w3.setCell ⟨w1.heap.size,3,none⟩ (.slice ao nk co)).heap.size = w3.heap.size:=by simp [World.setCell]
 have hW2 : ∀ j,vW'.ownBlock = some j -> j ≠ w1.heap.size:=fun j e e'=>by
  rcases p.blk j e with e2 | e2
  ·have:=hWlt j e2;omega
  ·omega
 refine ⟨h3,by rw [zy (i:=3) h3];rfl,h.move (vW':=vW') (W':=W') ?_ (by rw [hsz4];omega) (fun j h1 h2 h3 h4=>?_) (fun j e=>?_),?_,fun ad e=>?_⟩
 ·have hs := p.sh
  refine ⟨hs.bel.setCell (p:=⟨w1.heap.size,3,none⟩) (by show b <= w1.heap.size;omega) _,(hset _ (by omega)).trans hs.box,hs.mp.frame (hset _ (by omega)),yq hs.ow (fun j e=>hset j (hW2 j e))⟩
 ·exact (hset j (by omega)).trans ((p.oth.blk j (by omega) h2 h3 h4).trans (hbA.block j h1))
 ·rcases p.blk j e with e2 | e2
  ·exact .inl e2
  ·exact .inr (by omega)
 ·have ho : (w3.setCell ⟨w1.heap.size, 3, none⟩ (.slice ao nk co)).ownsRow w2.heap.size 3 1 (.slice ao nk co) nk (iz pl) := yq p.own (fun j e => hset j (by have := (p.own.lt j e).1; omega))
  have hn : pl.length = nk:=by have:=ho.1;rw [xj] at this;omega
  rw [<- hn] at ho ⊢
  obtain ⟨a2,c2,e1,e2⟩:=zet ho hu
  cases e1
  exact e2
 ·have e1 : (Value.slice ao nk co).ownBlock = some ad.block := by rw [e]; rfl
  have hl:=p.own.lt _ e1
  refine ⟨by omega,by rw [hsz4];exact hl.2,fun e2=>?_,p.ne _ e1⟩
  have:=(h.nodes.own.lt _ e2).2
  omega
end
def zin1 (D : Int -> Nd) (rts : List Int) (w : World) (e : Ending) (w' : World) : Prop :=
 ∃ a1 n1 c1 a2 n2 c2 W ns rs,e = .returned (GVal a1 n1 c1 a2 n2 c2) /\ Told D rts W ns rs /\ Fine ns rs 300001 /\ GIs w' a1 n1 c1 a2 n2 c2 (zg ns rs).1 (zg ns rs).2 /\ zva w.heap.size w' a1 n1 c1 a2 n2 c2 (zg ns rs).1 (zg ns rs).2 /\ Below w.heap.size w w'
section
variable {B : Nat} {v vn : Value} {N : Int} {os : List Ob} {nm : List ByteArray} {F : Nat -> Prop}
set_option maxHeartbeats 16000000 in
theorem zxt {gh : Nat} {op : Option Addr} (D : Int -> Nd) (hok : ∀ x,okD (D x) = true) (ro : Option Addr) (nr cr : Nat) (rts : List Int) (w : World) (R : URow w ro nr cr rts) (L : List Int) (hL : ∀ x,Rch D rts x -> x∈L) (hl : L.length <= 2400) (hk : ∀ x∈L,(D x).kids.length <= 100 /\ (D x).text.size <= 2000)
  (hnr : nr <= 2400) (hT : vx w) (hN : ∀ (wr : World) (x : Int) (gs : Nat),x∈L -> U64 x -> Below w.heap.size w wr -> SB gs (.pointer (some ⟨gh,0,none⟩)) (.pointer op) wr -> Calls Tryz.prog 39 #[.pointer (some ⟨gs,0,none⟩),.int .u64 x] wr (zhd (D x) wr)) :
  Calls Tryz.prog 11 #[.pointer (some ⟨gh,0,none⟩),.pointer op,.slice ro nr cr] w (zin1 D rts w):=by
 have HR:=hid R
 have HL:=hid hL
 have HLL:=hid hl
 have HK:=hid hk
 have HOK:=hid hok
 have HND:=hid hN
 have HT:=hid hT
 have HRL:=hid R.len
 obtain ⟨gr,hgr⟩ : ∃ g,g = w.heap.size:=⟨_,rfl⟩
 have HGR:=hid hgr
 obtain ⟨W0,hW0⟩ : ∃ W,W = w.alloc (.cells #[.slice none 0 0,.slice none 0 0] 34):=⟨_,rfl⟩
 have hs0 : W0.heap.size = gr + 1:=by rw [hW0,zb,hgr]
 have HS0:=hid hs0
 have hb0 : Below w.heap.size w W0:=by rw [hW0];exact Ba w _
 have HB0:=hid hb0
 have hy0 : W0.heap[gr]? = some (.cells #[.slice none 0 0,.slice none 0 0] 34 (0,0)):=by rw [hW0,hgr];exact zd _ _ _
 have HY0:=hid hy0
 obtain ⟨W2,hW2⟩ : ∃ W,W = (W0.alloc (.map #[] 0)).alloc (.cells #[.pointer (some ⟨gh,0,none⟩),.pointer op,.slice none 0 0,.map (some (gr + 1))] 83):=⟨_,rfl⟩
 have hb2 : Below (gr + 1) W0 W2:=by rw [hW2,<- hs0];exact Bt (Ba W0 _) (Ba _ _)
 have HSH : Hid (SH (gr + 1) W0 (.pointer (some ⟨gh,0,none⟩)) (.pointer op) (.slice none 0 0) [] [] W2):=by
  have hx:=zd (W0.alloc (.map #[] 0)) #[.pointer (some ⟨gh,0,none⟩),.pointer op,.slice none 0 0,.map (some (gr + 1))] 83
  rw [zb,<- hW2,hs0] at hx
  have hm:=MapW.made W0
  rw [hs0] at hm
  refine ⟨hb2,hx,hm.frame ?_,World.ownsRow_nil _ _ _ _⟩
  rw [hW2]
  exact (Ba (W0.alloc (.map #[] 0)) _).block _ (by rw [zb,hs0];omega)
 have HBX : Hid (∀ wx,Below (gr + 1) W0 wx -> Below w.heap.size w wx):=fun wx hb=>HB0.out.trans (hb.mono (by have:=HGR.out;omega))
 have CP0 : Hid (Calls Tryz.prog 38 #[.pointer (some ⟨gr + 1 + 1,0,none⟩),.slice ro nr cr] W2 (zqo (gr + 1) W0 (.pointer (some ⟨gh,0,none⟩)) (.pointer op) (.slice none 0 0) [] rts nr W2)):=by
  refine zic ro nr cr rts W2 HSH.out (fun wx hx=>?_) (by simp;omega)
  have hbw:=HBX.out W2 hb2
  refine (HR.out.on hbw).keep hx.size (fun hne a ha=>?_)
  rcases HR.out.rd with e | ⟨bR,oR,e,hlt,_⟩
  ·exact absurd e hne
  ·rw [e] at ha; cases ha
   exact hx.blk bR (Nat.lt_of_lt_of_le hlt hbw.size) (by show bR ≠ gr + 1;omega) (by show bR ≠ gr + 1 + 1;omega) (fun e=>by cases e)
 have CN : Hid (∀ (vW : Value) (W : List Int) (wr : World) (x : Int),x∈L -> U64 x -> SH (gr + 1) W0 (.pointer (some ⟨gh,0,none⟩)) (.pointer op) vW W W wr -> Calls Tryz.prog 39 #[.pointer (some ⟨gr + 1 + 1,0,none⟩),.int .u64 x] wr (zhd (D x) wr)):=fun vW W wr x hxL hx hs=>HND.out wr x _ hxL hx (HBX.out wr hs.bel) ⟨za hs.box 0,za hs.box 1,(Array.getElem?_eq_some_iff.1 hs.box).1⟩
 have hmm:=@run_makeMap Tryz.prog
 have HRU:=hid R.bd
 have HM0:=hid (MI.start (D) rts R.bd)
 have HW0:=hid hW0
 have HW2:=hid hW2
 have KEY : Hid (∀ (vW : Value) (W rs : List Int) (ns : List Nd),MI (D) rts W rs ns -> W.length <= 2400):=fun vW W rs ns hM=>Nat.le_trans (hM.le HL.out) HLL.out
 clear R hL hl hk hT hok hN hs0 hb0 hy0 hb2 hgr hW0 hW2
 go_enter Tryz.func11,Tryz.ntmps11
 go_wp2_with (go_at_call 38;rw [<- HGR.out,<- HW0.out,<- HW2.out];(with_reducible refine CP0.out.mono ?_);rintro e W3 ⟨vo,vW0,rfl,p3⟩;obtain ⟨ao,co,rfl,_,_⟩:=jd p3.own;have HQ0:=hid (zbi1 p3);clear p3)
 clear hmm
 obtain ⟨go,hgo⟩ : ∃ g,g = W3.heap.size:=⟨_,rfl⟩
 obtain ⟨W4,hW4⟩ : ∃ W,W = W3.alloc (.cells #[.slice none 0 0,.slice ao nr co] 34):=⟨_,rfl⟩
 rw [<- hgo,<- hW4] at HQ0
 rw [<- hW4,<- hgo]
 clear hW4 hgo
 obtain ⟨rs,hrs⟩ : ∃ r,r = plL [] rts:=⟨_,rfl⟩
 rw [<- hrs] at HQ0 HM0
 have HRSL : Hid (rs.length = nr):=by unfold Hid;rw [hrs,zhl1,HRL.out]
 clear hrs
 obtain ⟨v,hv⟩ : ∃ v,v = Value.pointer (some ⟨gh,0,none⟩):=⟨_,rfl⟩
 obtain ⟨vn,hvn⟩ : ∃ v,v = Value.pointer op:=⟨_,rfl⟩
 rw [<- hv,<- hvn] at HQ0 CN
 clear hv hvn
 go_loopw [9,10,11] (fun p _ _ wr=>∃ q : Nat,p = .int .i64 q /\ Hid (∃ vW vN W xs,QS (gr + 1) W0 v vn (.slice ao nr co) vW vN go nr rs W xs wr /\ MI (D) rts W rs (xs.map Prod.fst) /\ xs.length = q)) (fun p _ _ _=>3000 - (intOf p).toNat)
 case atStart=>exact ⟨0,rfl,vW0,_,_,[],HQ0.out,HM0.out,rfl⟩
 case round =>
  obtain ⟨q,rfl,HI0⟩:=hrel
  obtain ⟨vW,vN,W,xs,hQ,hM,hxl⟩:=HI0.out
  have hWl:=KEY.out vW W rs _ hM
  obtain ⟨aW,cW,rfl,hu⟩:=xy hQ.sh.ow hM.u
  have HQ:=hid hQ
  have HM:=hid hM
  have HX:=hid hxl
  have c2 : wr.cell? ⟨gr + 1 + 1,2,none⟩ = some (.slice aW W.length cW):=za hQ.sh.box 2
  have hf1:=hu.fits
  have hf2:=hu.most
  unfold maxLen at hf2
  by_cases hlt : q < W.length
  ·obtain ⟨bW, oW, rfl, hbW, hcW⟩ := hu.some (by omega)
   have c5:=hcW q hlt
   have hxm : W.getD q 0∈W:=ji hlt
   have hxu:=hM.u _ hxm
   have C1:=hid (CN.out _ W wr _ (HL.out _ (hM.rch _ hxm)) hxu hQ.sh)
   have hdk:=HK.out _ (HL.out _ (hM.rch _ hxm))
   have HOKN : Hid (NdOk (D (W.getD q 0))):=zim1 (HOK.out _) hdk.2
   have HSTEP : Hid (∀ (d : Nd),yw d (D (W.getD q 0)) -> d.kids = plL W (D (W.getD q 0)).kids -> (∀ y∈(D (W.getD q 0)).kids,U64 y) -> MI (D) rts (metW W (D (W.getD q 0)).kids) rs (xs.map Prod.fst ++ [d])):=fun d h1 h2 h3=>by
    have hx2 : (xs.map Prod.fst).length = q:=by rw [List.length_map];exact HX.out
    have:=HM.out.step (d:=d) (by rw [hx2];exact hlt) (by rw [hx2];exact h1) (by rw [hx2];exact h2) (by rw [hx2];exact h3)
    rw [hx2] at this;exact this
   obtain ⟨x,hx⟩ : ∃ x,x = W.getD q 0:=⟨_,rfl⟩
   rw [<- hx] at c5 C1 HOKN HSTEP hdk hxu
   obtain ⟨d,hd⟩ : ∃ d,d = D x:=⟨_,rfl⟩
   rw [<- hd] at C1 HOKN HSTEP hdk
   obtain ⟨dk,dn,dt,dl⟩:=d
   simp only at hdk HSTEP
   have HDL:=hid hdk.1
   have CPK : Hid (∀ (W1 : World) (ak : Option Addr) (nk ck : Nat),URow W1 ak nk ck dl -> (∀ a,ak = some a -> wr.heap.size <= a.block) -> Below wr.heap.size wr W1 -> Calls Tryz.prog 38 #[.pointer (some ⟨gr + 1 + 1,0,none⟩),.slice ak nk ck] (W1.alloc (.cells #[.int .i64 dk,.int .i64 dn,.string dt,.slice none 0 0] 54)) (zqo (gr + 1) W0 v vn (.slice (some ⟨bW,oW,none⟩) W.length cW) W dl nk (W1.alloc (.cells #[.int .i64 dk,.int .i64 dn,.string dt,.slice none 0 0] 54)))):=fun W1 ak nk ck hu1 ha hb=>by
    have hbA:=Ba W1 (.cells #[.int .i64 dk,.int .i64 dn,.string dt,.slice none 0 0] 54)
    have h1:=(HQ.out.on hb).on hbA
    have hwl:=HQ.out.sh.lt
    have hnk:=hu1.len
    have hdl:=HDL.out
    refine zic ak nk ck dl _ h1.sh (fun wx hx=>?_) (by omega)
    refine (hu1.on hbA).keep hx.size (fun hne a e=>?_)
    have h2:=ha a e
    rcases hu1.rd with e2 | ⟨bk,ok,e2,h3,_⟩
    ·exact absurd e2 hne
    ·rw [e2] at e; cases e
     refine hx.blk bk (by rw [zb];omega) (by simp at h2;omega) (by simp at h2;omega) (fun e=>?_)
     have:=(HQ.out.sh.ow.lt _ e).2
     simp at h2
     omega
   obtain ⟨aN,cN,hvN,hn1,hn2⟩:=jd hQ.nodes.own
   rw [hxl] at hvN hn1
   subst hvN
   have TRN : Hid (∀ (W1 W5 : World) (nk : Nat) (a5 : Option Addr) (c5 : Nat) (vW5 : Value),Below wr.heap.size wr W1 -> dl.length = nk -> POw (gr + 1) W0 v vn (.slice (some ⟨bW,oW,none⟩) W.length cW) (W1.alloc (.cells #[.int .i64 dk,.int .i64 dn,.string dt,.slice none 0 0] 54)) (.slice a5 nk c5) vW5 nk (plL W dl) (metW W dl) (metW W dl) W5 ->
     W5.cell? ⟨W1.heap.size,3,none⟩ = some (.slice none 0 0) /\ W5.frozen? ⟨W1.heap.size,3,none⟩ = false /\ (W5.setCell ⟨W1.heap.size,3,none⟩ (.slice a5 nk c5)).cell? ⟨go,0,none⟩ = some (.slice aN q cN) /\
     (W5.setCell ⟨W1.heap.size,3,none⟩ (.slice a5 nk c5)).cell? ⟨W1.heap.size,0,none⟩ = some (.int .i64 dk) /\ (W5.setCell ⟨W1.heap.size,3,none⟩ (.slice a5 nk c5)).cell? ⟨W1.heap.size,1,none⟩ = some (.int .i64 dn) /\ (W5.setCell ⟨W1.heap.size,3,none⟩ (.slice a5 nk c5)).cell? ⟨W1.heap.size,2,none⟩ = some (.string dt) /\ (W5.setCell ⟨W1.heap.size,3,none⟩ (.slice a5 nk c5)).cell? ⟨W1.heap.size,3,none⟩ = some (.slice a5 nk c5) /\
     Hid ((∀ j u,(nc ((⟨dk,dn,dt,plL W dl⟩ : Nd),a5,nk,c5))[j]? = some u -> ((W5.setCell ⟨W1.heap.size,3,none⟩ (.slice a5 nk c5)).alloc (.cells #[.int .i64 dk,.int .i64 dn,.string dt,.slice a5 nk c5] 54)).cell? ⟨W5.heap.size,j,none⟩ = some u) /\
     ((W5.setCell ⟨W1.heap.size,3,none⟩ (.slice a5 nk c5)).alloc (.cells #[.int .i64 dk,.int .i64 dn,.string dt,.slice a5 nk c5] 54)).ownsRow (go + 1) 54 4 (.slice aN q cN) q (ncs xs) /\
     go + 1 <= ((W5.setCell ⟨W1.heap.size,3,none⟩ (.slice a5 nk c5)).alloc (.cells #[.int .i64 dk,.int .i64 dn,.string dt,.slice a5 nk c5] 54)).heap.size /\
     (∀ g cap w',w'.ownsRow (go + 1) 54 4 (.slice (some ⟨g,0,none⟩) (q + 1) cap) (q + 1) (ncs xs ++ nc ((⟨dk,dn,dt,plL W dl⟩ : Nd),a5,nk,c5)) -> ((W5.setCell ⟨W1.heap.size,3,none⟩ (.slice a5 nk c5)).alloc (.cells #[.int .i64 dk,.int .i64 dn,.string dt,.slice a5 nk c5] 54)).grownBy w' (Value.slice aN q cN).ownBlock -> ((Value.slice aN q cN).ownBlock = some g \/ g = ((W5.setCell ⟨W1.heap.size,3,none⟩ (.slice a5 nk c5)).alloc (.cells #[.int .i64 dk,.int .i64 dn,.string dt,.slice a5 nk c5] 54)).heap.size) ->
      QS (gr + 1) W0 v vn (.slice ao nr co) vW5 (.slice (some ⟨g,0,none⟩) (q + 1) cap) go nr rs (metW W dl) (xs ++ [((⟨dk,dn,dt,plL W dl⟩ : Nd),a5,nk,c5)]) (w'.setCell ⟨go,0,none⟩ (.slice (some ⟨g,0,none⟩) (q + 1) cap)) /\ w'.frozen? ⟨go,0,none⟩ = false /\ w'.cell? ⟨go,0,none⟩ = some (.slice aN q cN)))):=fun W1 W5 nk a5 c5 vW5 hb hnk hp=>by
    have hml:=zoo dl W
    have hdl:=HDL.out
    obtain ⟨t1,t2,t3,t4,t5⟩:=zxs (HQ.out.on hb) hp (fun z hz=>by have:=zxq hz;unfold I64;omega)
    have hss : (W5.setCell ⟨W1.heap.size,3,none⟩ (.slice a5 nk c5)).heap.size = W5.heap.size:=by simp [World.setCell]
    obtain ⟨S,hS⟩ : ∃ S,S = W5.setCell ⟨W1.heap.size,3,none⟩ (.slice a5 nk c5):=⟨_,rfl⟩
    rw [<- hS] at t2 t3 t4 t5 hss
    rw [<- hS]
    have hbS:=Ba S (.cells #[.int .i64 dk,.int .i64 dn,.string dt,.slice a5 nk c5] 54)
    have hnew:=zd S #[.int .i64 dk,.int .i64 dn,.string dt,.slice a5 nk c5] 54
    have h6:=t3.on hbS
    have ho6:=h6.nodes.own
    rw [HX.out] at ho6
    rw [hss] at hnew
    refine ⟨za t1 3,zf t1 3,za t3.box 0,za t2 0,za t2 1,za t2 2,za t2 3,fun j u hj=>?_,ho6,?_,fun g cap w' ho hg hl=>?_⟩
    ·exact ziu (d:=((⟨dk,dn,dt,plL W dl⟩ : Nd),a5,nk,c5)) hnew hj
    ·have:=h6.glt;omega
    ·have hx3 := HX.out
     rw [<- hx3] at ho
     have:=h6.push (d:=((⟨dk,dn,dt,plL W dl⟩ : Nd),a5,nk,c5)) ho hg hl HOKN.out (t4.below hbS) (fun ad e=>⟨(t5 ad e).1,Nat.lt_of_lt_of_le (t5 ad e).2.1 hbS.size,(t5 ad e).2.2⟩)
     rw [hx3] at this
     exact this
   unfold zhd zoj at C1
   simp only at C1
   obtain ⟨nW,hnW⟩ : ∃ n,n = W.length:=⟨_,rfl⟩
   rw [<- hnW] at c2 hlt hWl CPK TRN hf1
   have hq1 : q <= 1000000:=by omega
   clear hQ hM hu hcW hbW hxm hxu hdk hx hd hxl HI0 hnW hn1 hn2
   go_wp2_with (first
    | (go_at_call 39;(with_reducible refine C1.out.mono ?_);rintro e W1 ⟨ak,nk,ck,rfl,u1,a1,b1⟩;have C2:=hid (CPK.out W1 ak nk ck u1 a1 b1);have HU1:=hid u1.bd;have HNK:=hid u1.len;have HB1:=hid b1;clear u1 a1 b1)
    | (go_at_call 38;(with_reducible refine C2.out.mono ?_);rintro e W5 ⟨vo5,vW5,rfl,p5⟩;obtain ⟨a5,c5',rfl,_,_⟩:=jd p5.own;obtain ⟨t1,t2,t3,t4,t5,t6,t7,TH⟩:=TRN.out W1 W5 nk a5 c5' vW5 HB1.out HNK.out p5;clear p5)
    | (at_builtin;refine appn rfl _ _ 31 rfl (go + 1) 54 Tryz.underlying31 zcv _ q (ncs xs) rfl TH.out.2.1 W5.heap.size 1 ((⟨dk,dn,dt,plL W dl⟩ : Nd),a5,nk,c5') rfl TH.out.1 hq1 TH.out.2.2.1 ?_;intro g7 cap7 w7 ho7 hg7 hl7 hlt7;obtain ⟨p7,f7,e7⟩:=TH.out.2.2.2 g7 cap7 w7 ho7 hg7 hl7;have HP7:=hid p7;clear p7 ho7 hg7 hl7 hlt7))
   refine ⟨⟨q + 1,by go_num,vW5,.slice (some ⟨g7,0,none⟩) (q + 1) cap7,metW W dl,xs ++ [((⟨dk,dn,dt,plL W dl⟩ : Nd),a5,nk,c5')],HP7.out,?_,?_⟩,by simp [intOf] <;> omega⟩
   ·rw [List.map_append]
    exact HSTEP.out _ ⟨rfl,rfl,rfl⟩ rfl HU1.out
   ·rw [List.length_append,HX.out];rfl
  ·have hnl := hM.len
   rw [List.length_map,hxl] at hnl
   have hqe : (xs.map Prod.fst).length = W.length:=by rw [List.length_map,hxl];omega
   have HTO:=hid (hM.told hqe)
   obtain ⟨hfi,hsm⟩:=hM.fine hqe HOK.out HL.out HLL.out HK.out
   have HFI:=hid hfi
   obtain ⟨aN,cN,rfl,hnr0⟩:=hQ.nodes.row
   have hro:=hQ.ro
   rw [<- HRSL.out] at hro
   obtain ⟨ao',co',e1,hir⟩:=zet hro (fun z hz=>by have:=hM.rr z hz;unfold I64;omega)
   rw [<- HRSL.out] at HQ
   have e2 : ao = ao' /\ co = co':=by injection e1 with e1 _ e3;exact ⟨e1,e3⟩
   obtain ⟨rfl,rfl⟩:=e2
   have hbw:=HBX.out wr hQ.sh.bel
   have CC:=hid (zkt aN ao xs.length cN rs.length co (xs.map Prod.fst) rs wr ⟨hnr0,hir⟩ hsm hfi.kids (by omega) (by have:=HRSL.out;omega) (HT.out.below hbw).1 300001 (by omega) (by omega))
   have HBW:=hid hbw
   have g0 : wr.cell? ⟨go,0,none⟩ = some (.slice aN xs.length cN):=za hQ.box 0
   have g1 : wr.cell? ⟨go,1,none⟩ = some (.slice ao nr co):=za hQ.box 1
   have hgrw : gr < wr.heap.size:=by have:=hQ.sh.lt;omega
   have HGRW:=hid hgrw
   have HYR : Hid (wr.heap[gr]? = some (.cells #[.slice none 0 0,.slice none 0 0] 34 (0,0))):=(hQ.sh.bel.block gr (by omega)).trans HY0.out
   unfold GVal at CC
   rw [hxl,HRSL.out] at CC
   rw [hxl] at g0
   clear hQ hM hu hxl HI0 HQ HM hfi hsm hnr0 hro hir hbw hgrw hqe hnl e1
   go_wp2_with (go_at_call 40;(with_reducible refine CC.out.mono ?_);rintro e w4 ⟨a1,n1,c1,a2,n2,c3,rfl,hGI,hGK,b4⟩;have y4:=(b4.block gr HGRW.out).trans HYR.out;have Y4:=hid y4;have v1 : w4.cell? ⟨gr,0,none⟩ = some (.slice none 0 0):=za y4 0;have v2 : w4.cell? ⟨gr,1,none⟩ = some (.slice none 0 0):=za y4 1;have fv1 : w4.frozen? ⟨gr,0,none⟩ = false:=zf y4 0;have fv2 : w4.frozen? ⟨gr,1,none⟩ = false:=zf y4 1;have HGI:=hid hGI;have HGK:=hid hGK;have HB4:=hid b4;clear y4 hGI hGK b4;try unfold GVal)
   have hst:=zbr (v1:=.slice a1 n1 c1) (v2:=.slice a2 n2 c3) Y4.out
   have r0:=za hst 0
   have r1:=za hst 1
   (try simp only [Exit.inBlock,Exit.then]);refine bodyPost_ret (by simp [results,Tryz.results11,go_sem,r0,r1];rfl) rfl ?_
   have hss : ((w4.setCell ⟨gr,0,none⟩ (.slice a1 n1 c1)).setCell ⟨gr,1,none⟩ (.slice a2 n2 c3)).heap.size = w4.heap.size:=by simp [World.setCell]
   have hfar : ∀ b,wr.heap.size <= b -> ((w4.setCell ⟨gr,0,none⟩ (.slice a1 n1 c1)).setCell ⟨gr,1,none⟩ (.slice a2 n2 c3)).heap[b]? = w4.heap[b]?:=fun b hb=>qt (by have:=HGRW.out;omega)
   refine ⟨a1,n1,c1,a2,n2,c3,W,xs.map Prod.fst,rs,rfl,HTO.out,HFI.out,HGK.out _ (by rw [hss];exact Nat.le_refl _) (fun b hb _=>hfar b hb),fun wz hz1 hz2=>HGK.out wz (by rw [hss] at hz1;exact hz1) (fun b hb hb2=>(hz2 b (Nat.le_trans HBW.out.size hb) (by rw [hss];exact hb2)).trans (hfar b hb)),y8 (HBW.out.trans (HB4.out.mono HBW.out.size)) (by have:=HGR.out;omega)⟩
end
end Go.Proofs.YticimejfjjmikaaGreatDoor
