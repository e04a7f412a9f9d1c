import Derived.Test.YticimejfjjmikaaGreatDoorV3
set_option linter.unusedVariables false
set_option linter.unusedSimpArgs false
set_option maxRecDepth 100000
namespace Go.Proofs.YticimejfjjmikaaGreatDoor
open Go.RowKit
structure URow (w : World) (ao : Option Addr) (n cap : Nat) (l : List Int) : Prop where
 len : l.length = n
 fits : n <= cap
 most : cap <= maxLen
 nil_ : ao = none -> cap = 0
 bd : ∀ z∈l,U64 z
 rd : l = [] \/ ∃ b o,ao = some ⟨b,o,none⟩ /\ b < w.heap.size /\ ∀ i,i < l.length -> w.cell? ⟨b,o + i,none⟩ = some (.int .u64 (l.getD i 0))
theorem URow.some {w : World} {ao : Option Addr} {n cap : Nat} {l : List Int} (h : URow w ao n cap l) (hl : 0 < n) :
  ∃ b o,ao = Option.some ⟨b,o,none⟩ /\ b < w.heap.size /\ ∀ i,i < n -> w.cell? ⟨b,o + i,none⟩ = Option.some (.int .u64 (l.getD i 0)):=by
 rcases h.rd with e | h2
 ·have:=h.len;simp [e] at this;omega
 ·rw [h.len] at h2;exact h2
theorem URow.keep {w w' : World} {ao : Option Addr} {n cap : Nat} {l : List Int} (h : URow w ao n cap l) (hs : w.heap.size <= w'.heap.size) (hb : l ≠ [] -> ∀ a,ao = Option.some a -> w'.heap[a.block]? = w.heap[a.block]?) : URow w' ao n cap l:=by
 refine ⟨h.len,h.fits,h.most,h.nil_,h.bd,?_⟩
 rcases h.rd with e | ⟨b,o,e,h1,h2⟩
 ·exact .inl e
 ·exact .inr ⟨b,o,e,Nat.lt_of_lt_of_le h1 hs,fun i hi=>(World.cell?_of_block (a:=⟨b,o + i,none⟩) (hb (fun e'=>by rw [e'] at hi;simp at hi) ⟨b,o,none⟩ e)).trans (h2 i hi)⟩
theorem URow.on {w w' : World} {ao : Option Addr} {n cap : Nat} {l : List Int} (h : URow w ao n cap l) (hb : Below w.heap.size w w') : URow w' ao n cap l:=by
 refine ⟨h.len,h.fits,h.most,h.nil_,h.bd,?_⟩
 rcases h.rd with e | ⟨b,o,e,h1,h2⟩
 ·exact .inl e
 ·exact .inr ⟨b,o,e,Nat.lt_of_lt_of_le h1 hb.size,fun i hi=>(hb.cell (p:=⟨b,o + i,none⟩) h1).trans (h2 i hi)⟩
theorem info_word : (Tryz.prog.info? 44).map (fun i=>(i.zero,i.size,i.bytes)) = some (some (.int .u64 0),1,8):=by kernel_rfl
theorem info_obj : (Tryz.prog.info? 98).map (fun i=>(i.zero,i.size,i.bytes)) = some (some (.agg #[.int .i64 0,.int .i64 0,.slice none 0 0]),3,40):=by kernel_rfl
section
variable {P : Program} {w : World} {ops : Array Oper} {o : Oper} {a : Act} {K : Act -> World -> Prop} {Q : Exit -> Act -> World -> Prop} {E : Prop}
theorem stepU (dst : Option Nat) (hdst : o.dst = dst) (hgd : o.guard = none) (s x : Operand) (t : TypeId) (ho : o.op = .call { callee:=.builtin .append,args:=#[s,x],argTypes:=#[t,t] })
  (base : Nat) (e : TypeId) (ht : P.underlying t = some (.slice e)) (hi : (P.info? e).map (fun i=>(i.zero,i.size,i.bytes)) = some (some (.int .u64 0),1,8))
  (v : Value) (n : Nat) (l : List Int) (hs : a.eval s = v) (hown : w.ownsRow base e 1 v n (uz l))
  (ao : Option Addr) (m c : Nat) (r : List Int) (hx : a.eval x = .slice ao m c) (hr : URow w ao m c r) (hsm : n + m <= 1099511627776) (hbase : base <= w.heap.size)
  (h : ∀ v' w',w'.ownsRow base e 1 v' (n + m) (uz (l ++ r)) -> w.grownBy w' v.ownBlock -> K (a.put dst v') w') :
  if Region.wanted o (yielded ops a.tmps) = true then Oper.wp P o a w K Q else E:=by
 subst hdst
 have hw : Region.wanted o (yielded ops a.tmps) = true:=by simp [Region.wanted,hgd]
 rw [if_pos hw]
 obtain ⟨i0,hi0,hz0,hz1,hz2⟩ : ∃ i0,P.info? e = some i0 /\ i0.zero = some (.int .u64 0) /\ i0.size = 1 /\ i0.bytes = 8:=by
  cases h : P.info? e with
  | none=>rw [h] at hi;cases hi
  | some i=>rw [h] at hi;simp at hi;exact ⟨i,rfl,hi.1,hi.2.1,hi.2.2⟩
 cases ao with
 | none =>
  have hc:=hr.nil_ rfl
  subst hc
  have hm : m = 0:=by have:=hr.fits;omega
  subst hm
  have hl2 : r = []:=List.length_eq_zero_iff.1 hr.len
  subst hl2
  have hrun:=run_append_owned_none (P:=P) (w:=w) base t o.type e i0 1 ht hi0 v n (uz l) hown
  unfold Oper.wp
  simp [execOp,ho,resolve,invoke,builtin,hs,hx,hrun,Result.andThen]
  exact h v w (by simpa using hown) ⟨rfl,rfl,rfl,Nat.le_refl _,fun _ _ _=>rfl⟩
 | some ad =>
  refine wp_append_own w s x t ho base e i0 (.int .u64 0) 1 8 ht hi0 hz0 hz1 hz2 rfl (by decide) v n (uz l) hs hown ad m c (uz r) hx (by rw [uz_length,hr.len];omega) ?_ ?_ (by unfold maxLen;omega) (by omega) hbase ?_
  ·intro j u hj
   have hjl : j < r.length:=by
    have:=(List.getElem?_eq_some_iff.1 hj).1
    rwa [uz_length] at this
   rw [uz_get hjl] at hj
   cases hj
   obtain ⟨b,o',hao,_,hc⟩:=hr.some (by have:=hr.len;omega)
   cases hao
   have:=hc j (by have:=hr.len;omega)
   unfold Addr.add
   by_cases hj0 : j = 0
   ·subst hj0;simpa using this
   ·rw [if_neg hj0];exact this
  ·intro u hu
   unfold uz at hu
   obtain ⟨z,_,rfl⟩:=List.mem_map.1 hu
   rfl
  ·intro v' w' h1 h2 _
   rw [<- uz_append] at h1
   exact h v' w' h1 h2
theorem stepO (dst : Option Nat) (hdst : o.dst = dst) (hgd : o.guard = none) (s x : Operand) (t : TypeId) (ho : o.op = .call { callee:=.builtin .append,args:=#[s,x],argTypes:=#[t,t] })
  (base : Nat) (e : TypeId) (ht : P.underlying t = some (.slice e)) (hi : (P.info? e).map (fun i=>(i.zero,i.size,i.bytes)) = some (some (.agg #[.int .i64 0,.int .i64 0,.slice none 0 0]),3,40))
  (v : Value) (n : Nat) (xs : List Value) (hs : a.eval s = v) (hown : w.ownsRow base e 3 v n xs)
  (g0 c : Nat) (at_ : Nat) (d : Ob × Sl) (hx : a.eval x = .slice (some ⟨g0,0,none⟩) 1 c) (hd : ∀ j u,(oc at_ d)[j]? = some u -> w.cell? ⟨g0,j,none⟩ = some u) (hsm : n <= 1099511627776) (hbase : base <= w.heap.size)
  (h : ∀ g cap w',w'.ownsRow base e 3 (.slice (some ⟨g,0,none⟩) (n + 1) cap) (n + 1) (xs ++ oc at_ d) -> w.grownBy w' v.ownBlock -> (v.ownBlock = some g \/ g = w.heap.size) -> g < w'.heap.size -> K (a.put dst (.slice (some ⟨g,0,none⟩) (n + 1) cap)) w') :
  if Region.wanted o (yielded ops a.tmps) = true then Oper.wp P o a w K Q else E:=by
 subst hdst
 have hw : Region.wanted o (yielded ops a.tmps) = true:=by simp [Region.wanted,hgd]
 rw [if_pos hw]
 obtain ⟨i0,hi0,hz0,hz1,hz2⟩ : ∃ i0,P.info? e = some i0 /\ i0.zero = some (.agg #[.int .i64 0,.int .i64 0,.slice none 0 0]) /\ i0.size = 3 /\ i0.bytes = 40:=by
  cases h : P.info? e with
  | none=>rw [h] at hi;cases hi
  | some i=>rw [h] at hi;simp at hi;exact ⟨i,rfl,hi.1,hi.2.1,hi.2.2⟩
 refine wp_append_lies w s x t ho base e i0 _ 3 40 ht hi0 hz0 hz1 hz2 rfl (by decide) v n xs hs hown ⟨g0,0,none⟩ 1 c (oc at_ d) hx rfl ?_ ?_ (by decide) (by unfold maxLen;omega) (by omega) hbase w.heap.size rfl h
 ·intro j u hj
  have:=hd j u hj
  unfold Addr.add
  by_cases hj0 : j = 0
  ·subst hj0;simpa using this
  ·rw [if_neg hj0];simpa using this
 ·intro u hu;simp [oc] at hu;rcases hu with rfl | rfl | rfl <;> rfl
end
structure ASt (W : World) (vL : Value) (am : Nat) (kd : Int) (fl : List Int) (k : Nat) (al : Bool) (t39 t42 t44 t45 t46 : Value) (wx : World) : Prop where
 bel : Below W.heap.size W wx
 i0 : al = true -> t39 = vL
 i1 : k = 1 -> wx.ownsRow W.heap.size 44 1 t42 0 (uz [])
 i2 : 2 <= k -> wx.ownsRow W.heap.size 44 1 t44 fl.length (uz fl)
 i3 : k = 3 -> t45 = .agg #[.int .i64 am,.int .i64 kd,t44]
 i4 : k = 4 -> ∃ gb,t46 = .slice (some ⟨gb,0,none⟩) 1 1 /\ wx.heap[gb]? = some (.cells #[.int .i64 am,.int .i64 kd,t44] 98 (0,0))
def La (s : Nat × Bool) : Array Bool:=#[true,true,true,true,s.2,true,true,decide (1 <= s.1),true,decide (2 <= s.1),decide (3 <= s.1),decide (4 <= s.1),false,false,false,false]
def Ma (s : Nat × Bool) : Nat:=(4 - s.1) + (if s.2 then 0 else 1)
theorem uown_on {w w' : World} {base : Nat} {e : TypeId} {k : Nat} {v : Value} {n : Nat} {xs : List Value} (h : w.ownsRow base e k v n xs) (hb : Below w.heap.size w w') : w'.ownsRow base e k v n xs:=own_at h (fun b e=>hb.block b (h.lt b e).2)
section
variable {W wx wy : World} {vL : Value} {am : Nat} {kd : Int} {fl : List Int} {k : Nat} {al : Bool} {t39 t42 t44 t45 t46 : Value}
theorem ASt.load (h : ASt W vL am kd fl k false t39 t42 t44 t45 t46 wx) : ASt W vL am kd fl k true vL t42 t44 t45 t46 wx:=⟨h.bel,fun _=>rfl,h.i1,h.i2,h.i3,h.i4⟩
theorem ASt.s1 (h : ASt W vL am kd fl 0 al t39 t42 t44 t45 t46 wx) : ASt W vL am kd fl 1 al t39 (.slice (some ⟨wx.heap.size,0,none⟩) 0 0) t44 t45 t46 (wx.alloc (.cells #[] 44)) :=
 ⟨Bt h.bel (Ba _ _),h.i0,fun _=>⟨rfl,.inr ⟨wx.heap.size,0,#[],rfl,h.bel.size,blk_new _ _ _,Nat.le_refl _,by unfold maxLen;omega,rfl,rfl⟩⟩,fun e=>by omega,fun e=>by omega,fun e=>by omega⟩
theorem ASt.s2 (h : ASt W vL am kd fl 1 al t39 t42 t44 t45 t46 wx) {v : Value} (ho : wy.ownsRow W.heap.size 44 1 v fl.length (uz fl)) (hg : wx.grownBy wy t42.ownBlock) : ASt W vL am kd fl 2 al t39 t42 v t45 t46 wy :=
 ⟨h.bel.grown hg h.bel.size (fun k hk=>((h.i1 rfl).lt k hk).1),h.i0,fun e=>by omega,fun _=>ho,fun e=>by omega,fun e=>by omega⟩
theorem ASt.s3 (h : ASt W vL am kd fl 2 al t39 t42 t44 t45 t46 wx) : ASt W vL am kd fl 3 al t39 t42 t44 (.agg #[.int .i64 am,.int .i64 kd,t44]) t46 wx :=
 ⟨h.bel,h.i0,fun e=>by omega,fun _=>h.i2 (by omega),fun _=>rfl,fun e=>by omega⟩
theorem ASt.s4 (h : ASt W vL am kd fl 3 al t39 t42 t44 t45 t46 wx) : ASt W vL am kd fl 4 al t39 t42 t44 t45 (.slice (some ⟨wx.heap.size,0,none⟩) 1 1) (wx.alloc (.cells #[.int .i64 am,.int .i64 kd,t44] 98)) :=
 ⟨Bt h.bel (Ba _ _),h.i0,fun e=>by omega,fun _=>uown_on (h.i2 (by omega)) (Ba _ _),fun e=>by omega,fun _=>⟨_,rfl,blk_new _ _ _⟩⟩
end
theorem own_weak {w : World} {base B : Nat} {e : TypeId} {k : Nat} {v : Value} {n : Nat} {xs : List Value} (h : w.ownsRow base e k v n xs) (hb : B <= base) : w.ownsRow B e k v n xs:=by
 refine ⟨h.1,?_⟩
 rcases h.2 with h0 | ⟨g,cap,cur,h1,h2,h3⟩
 ·exact .inl h0
 ·exact .inr ⟨g,cap,cur,h1,Nat.le_trans hb h2,h3⟩
theorem RH.push {B g : Nat} {N : Int} {vL : Value} {ls : List (Ob × Sl)} {W wx w5 : World} (h : RH B g N vL ls W) (hBW : B <= W.heap.size) (hb : Below W.heap.size W wx) {kd : Int} {fl : List Int} {aF : Option Addr} {nF cF : Nat}
  (hrow : wx.ownsRow W.heap.size 44 1 (.slice aF nF cF) fl.length (uz fl)) (hn : nF = fl.length) {g1 cap : Nat}
  (ho : w5.ownsRow B 98 3 (.slice (some ⟨g1,0,none⟩) (ls.length + 1) cap) (ls.length + 1) (ocs 0 ls ++ oc (usedL (ls.map Prod.fst)) (⟨kd,fl⟩,aF,nF,cF))) (hg : wx.grownBy w5 vL.ownBlock) (hl : vL.ownBlock = some g1 \/ g1 = wx.heap.size)
  (hkd : 1 <= kd /\ kd <= 22) (hfl : ∀ z∈fl,U64 z) (hroom : (usedL (ls.map Prod.fst) : Int) + (1 + fl.length) <= N) :
  w5.heap[g]? = some (.cells #[.int .i64 N,vL] 101 (0,0)) /\ RH B g N (.slice (some ⟨g1,0,none⟩) (ls.length + 1) cap) (ls ++ [(⟨kd,fl⟩,aF,nF,cF)]) (w5.setCell ⟨g,1,none⟩ (.slice (some ⟨g1,0,none⟩) (ls.length + 1) cap)) /\
   (∀ b,RF g (.slice (some ⟨g1,0,none⟩) (ls.length + 1) cap) (ls ++ [(⟨kd,fl⟩,aF,nF,cF)]) b -> RF g vL ls b \/ W.heap.size <= b) /\ Mod (RF g vL ls) W (w5.setCell ⟨g,1,none⟩ (.slice (some ⟨g1,0,none⟩) (ls.length + 1) cap)):=by
 have hgW:=(h.foot_ge g (.inl rfl)).2
 have hgs:=hb.size
 have hgne : g1 ≠ g:=by
  rcases hl with h' | h'
  ·intro e;subst e;exact h.gl h'
  ·omega
 have hrl : ∀ a,aF = some a -> W.heap.size <= a.block /\ a.block < wx.heap.size:=fun a ha=>hrow.lt a.block (by rw [ha];rfl)
 have hxl : ∀ x∈ls,∀ a,x.2.1 = some a -> a.block < W.heap.size:=fun x hx a ha=>(h.foot_ge a.block (.inr (.inr ⟨x,hx,a,ha,rfl⟩))).2
 have key : ∀ b,b < wx.heap.size -> vL.ownBlock ≠ some b -> b ≠ g -> (w5.setCell ⟨g,1,none⟩ (.slice (some ⟨g1,0,none⟩) (ls.length + 1) cap)).heap[b]? = wx.heap[b]?:=fun b h1 h2 h3=>(Below.heap_setCell _ _ _ _ h3).trans (hg.block b h1 (fun e=>h2 e.symm))
 have hg5 : w5.heap[g]? = some (.cells #[.int .i64 N,vL] 101 (0,0)):=(hg.block g (by omega) (fun e=>h.gl e.symm)).trans ((hb.block g hgW).trans h.box)
 have hvlt : ∀ b,vL.ownBlock = some b -> b < W.heap.size:=fun b e=>(h.own.lt b e).2
 have hrne : ∀ a,aF = some a -> vL.ownBlock ≠ some a.block:=fun a ha e=>by have:=hvlt _ e;have:=(hrl a ha).1;omega
 refine ⟨hg5,⟨?_,?_,?_,?_,?_,?_,h.Bg,?_,?_,?_⟩,?_,?_⟩
 ·have:=blk_set (i:=1) hg5 (.slice (some ⟨g1,0,none⟩) (ls.length + 1) cap);rw [this];rfl
 ·rw [List.length_append, List.length_singleton, ocs_append, Nat.zero_add]
  have e1 : ocs (usedL (ls.map Prod.fst)) [((⟨kd,fl⟩ : Ob),aF,nF,cF)] = oc (usedL (ls.map Prod.fst)) (⟨kd,fl⟩,aF,nF,cF):=by simp [ocs]
  rw [e1]
  exact own_at ho (fun b e=>Below.heap_setCell _ _ _ _ (by have e' : g1 = b:=Option.some.inj e;show b ≠ g;omega))
 ·intro y hy
  rcases List.mem_append.1 hy with hy | hy
  ·refine ⟨own_at (h.rows y hy).1 (fun b e => ?_), (h.rows y hy).2⟩
   have ha : ∃ a : Addr,y.2.1 = some a /\ a.block = b:=by
    cases e'' : y.2.1 with
    | none=>rw [e''] at e;cases e
    | some a=>rw [e''] at e;exact ⟨a,rfl,by injection e⟩
   obtain ⟨a,ha1,rfl⟩:=ha
   have hlt:=hxl y hy a ha1
   exact (key _ (by omega) (h.ao y hy a ha1).1 (h.ao y hy a ha1).2).trans (hb.block _ hlt)
  ·obtain rfl := List.mem_singleton.1 hy
   refine ⟨own_weak (own_at hrow (fun b e=>?_)) hBW,hn⟩
   have ha : ∃ a : Addr,aF = some a /\ a.block = b:=by
    cases e'' : aF with
    | none=>rw [e''] at e;cases e
    | some a=>rw [e''] at e;exact ⟨a,rfl,by injection e⟩
   obtain ⟨a,ha1,rfl⟩:=ha
   have:=hrl a ha1
   exact key _ this.2 (hrne a ha1) (by omega)
 ·refine List.pairwise_append.2 ⟨h.apart, List.pairwise_singleton _ _, fun x hx y hy a a' ha ha' => ?_⟩
  obtain rfl:=List.mem_singleton.1 hy
  have:=hxl x hx a ha
  have:=(hrl a' ha').1
  omega
 ·intro y hy a ha
  rcases List.mem_append.1 hy with hy | hy
  ·have h1 := h.ao y hy a ha
   refine ⟨fun e=>?_,h1.2⟩
   have e' : g1 = a.block:=Option.some.inj e
   rcases hl with h' | h'
   ·exact h1.1 (by rw [h',e'])
   ·have:=hxl y hy a ha;omega
  ·obtain rfl := List.mem_singleton.1 hy
   have h1:=hrl a ha
   refine ⟨fun e=>?_,by omega⟩
   have e' : g1 = a.block:=Option.some.inj e
   rcases hl with h' | h'
   ·exact hrne a ha (by rw [h',e'])
   ·omega
 ·intro e;exact hgne (Option.some.inj e)
 ·intro y hy
  rcases List.mem_append.1 hy with hy | hy
  ·exact h.uf y hy
  ·obtain rfl:=List.mem_singleton.1 hy;exact hfl
 ·intro y hy
  rcases List.mem_append.1 hy with hy | hy
  ·exact h.kd y hy
  ·obtain rfl:=List.mem_singleton.1 hy;exact hkd
 ·rw [List.map_append, usedL_append]
  have:=h.room
  simp [usedL];omega
 ·rintro b (rfl | e | ⟨y, hy, a, ha, rfl⟩)
  ·exact .inl (.inl rfl)
  ·have e' : g1 = b := Option.some.inj e
   rcases hl with h' | h'
   ·exact .inl (.inr (.inl (by rw [h',e'])))
   ·right;omega
  ·rcases List.mem_append.1 hy with hy | hy
   ·exact .inl (.inr (.inr ⟨y,hy,a,ha,rfl⟩))
   ·obtain rfl := List.mem_singleton.1 hy
    exact .inr (hrl a ha).1
 ·exact ((Mod.of_below _ hb).grown hg (fun k hk=>.inl (.inr (.inl hk)))).setCell (p:=⟨g,1,none⟩) (.inl (.inl rfl)) _
def isHd (z : Int) : Bool:=decide ((ofR z).1 = 8)
def allocM (os : List Ob) (N kind : Int) (fl : List Int) : Int × Int :=
 if kind < 1 \/ 22 < kind then (0,70) else if fl.any isHd then (0,1) else if N - (usedL os : Nat) < 1 + (fl.length : Nat) then (0,3) else (wordR 2 (usedL os : Nat) 0,0)
def allocO (os : List Ob) (N kind : Int) (fl : List Int) : List Ob:=if (allocM os N kind fl).2 = 0 then os ++ [⟨kind,fl⟩] else os
def RPost (B g : Nat) (N : Int) (vL : Value) (ls : List (Ob × Sl)) (w : World) (os' : List Ob) (w' : World) : Prop :=
 ∃ vL' ls',RH B g N vL' ls' w' /\ ls'.map Prod.fst = os' /\ (∀ b,RF g vL' ls' b -> RF g vL ls b \/ w.heap.size <= b) /\ Mod (RF g vL ls) w w'
theorem RPost.same {B g : Nat} {N : Int} {vL : Value} {ls : List (Ob × Sl)} {w w' : World} (h : RH B g N vL ls w) (hb : Below w.heap.size w w') : RPost B g N vL ls w (ls.map Prod.fst) w':=⟨vL,ls,h.on hb,rfl,fun _ e=>.inl e,Mod.of_below _ hb⟩
theorem any_take {fl : List Int} {q : Nat} (h : (fl.take q).any isHd = false) (hq : q < fl.length) (hz : isHd (fl.getD q 0) = false) : (fl.take (q + 1)).any isHd = false:=by
 rw [List.take_succ_eq_append_getElem hq,List.any_append,h]
 rw [List.getD_eq_getElem?_getD,List.getElem?_eq_getElem hq] at hz
 simp only [Option.getD_some] at hz
 simp [hz]
theorem any_at {fl : List Int} {q : Nat} (hq : q < fl.length) (hz : isHd (fl.getD q 0) = true) : fl.any isHd = true:=by
 rw [List.getD_eq_getElem?_getD,List.getElem?_eq_getElem hq] at hz
 exact List.any_eq_true.2 ⟨fl[q],List.getElem_mem hq,hz⟩
set_option maxHeartbeats 16000000 in
theorem ralloc_any {B g : Nat} {N : Int} {vL : Value} {ls : List (Ob × Sl)} (kind : Int) (hk : Z64 kind) (ao : Option Addr) (n cap : Nat) (fl : List Int) (w : World) (h : RH B g N vL ls w) (R : URow w ao n cap fl) (hB : B <= w.heap.size) (hsm : n <= 1099511627776) :
  Calls Tryz.prog 70 #[.pointer (some ⟨g,0,none⟩),.int .i64 kind,.slice ao n cap] w fun e w' =>
   e = .returned (.tuple #[.int .u64 (allocM (ls.map Prod.fst) N kind fl).1,.int .i64 (allocM (ls.map Prod.fst) N kind fl).2]) /\ RPost B g N vL ls w (allocO (ls.map Prod.fst) N kind fl) w':=by
 have H:=hid h
 have HR:=hid R
 have hn:=R.len
 have hf:=R.fits
 have hm:=R.most
 have hrm:=h.room
 unfold maxLen at hm
 unfold Z64 at hk
 clear h R
 by_cases hk1 : kind < 1 \/ 22 < kind
 ·have ha : allocM (ls.map Prod.fst) N kind fl = (0, 70) := by unfold allocM; rw [if_pos hk1]
  have hao : allocO (ls.map Prod.fst) N kind fl = ls.map Prod.fst:=by unfold allocO;rw [ha];rfl
  rw [ha,hao]
  have HE:=hid (RPost.same H.out (Below.refl _ _))
  clear ha hao
  go_enter Tryz.func70,Tryz.ntmps70
  go_wp2_with fail
  all_goals first
   | omega
   | (go_ret2;exact ⟨rfl,HE.out⟩)
 go_enter Tryz.func70,Tryz.ntmps70
 have hk2 : 1 <= kind /\ kind <= 22:=by omega
 go_wp2_with fail
 go_loopw [8] (fun i wr=>∃ q : Nat,q <= n /\ i = .int .i64 q /\ Hid (Below w.heap.size w wr /\ (fl.take q).any isHd = false)) (fun i _=>n - (intOf i).toNat)
 case atStart=>exact ⟨0,Nat.zero_le _,rfl,Below.refl _ _,by simp⟩
 case round =>
  obtain ⟨q,hq,rfl,hI⟩:=hrel
  by_cases hlt : q < n
  ·obtain ⟨b, o, rfl, hlb, hcc⟩ := (HR.out.on hI.out.1).some (by omega)
   have hc1:=hcc q hlt
   obtain ⟨z,hz⟩ : ∃ z,z = fl.getD q 0:=⟨_,rfl⟩
   have hzu : U64 z:=by rw [hz,List.getD_eq_getElem?_getD,List.getElem?_eq_getElem (by omega)];exact HR.out.bd _ (List.getElem_mem _)
   rw [<- hz] at hc1
   have HZ:=hid hz
   have C1:=hid (ishead_any z hzu)
   clear hcc hz hzu
   by_cases h8 : (ofR z).1 = 8
   ·rw [decide_eq_true h8] at C1
    have hany : fl.any isHd = true:=any_at (q:=q) (by omega) (by rw [<- HZ.out];exact decide_eq_true h8)
    have ha : allocM (ls.map Prod.fst) N kind fl = (0,1):=by unfold allocM;rw [if_neg hk1,if_pos hany]
    have hao : allocO (ls.map Prod.fst) N kind fl = ls.map Prod.fst:=by unfold allocO;rw [ha];rfl
    have HA:=hid ha
    have HAO:=hid hao
    clear ha hao hany
    go_wp2_with (go_at_call 68;with_reducible refine (C1.out _).mono ?_;rintro e wb ⟨rfl,bb⟩)
    go_ret2
    rw [HA.out,HAO.out]
    exact ⟨rfl,RPost.same H.out (Bt hI.out.1 bb)⟩
   ·rw [decide_eq_false h8] at C1
    have hnx:=hid (any_take hI.out.2 (by omega) (by rw [<- HZ.out];exact decide_eq_false h8))
    go_wp2_with (go_at_call 68;with_reducible refine (C1.out _).mono ?_;rintro e wb ⟨rfl,bb⟩)
    exact ⟨⟨q + 1,by omega,by go_num,Bt hI.out.1 bb,hnx.out⟩,by simp [intOf] <;> omega⟩
  ·obtain rfl : q = n := by omega
   have hany:=hI.out.2
   rw [List.take_of_length_le (by omega)] at hany
   have HANY:=hid hany
   have HBR:=hid hI.out.1
   clear hI hany
   obtain ⟨U,hU⟩ : ∃ u,u = usedL (ls.map Prod.fst):=⟨_,rfl⟩
   have C2 : Hid (∀ wx,Below w.heap.size w wx -> Calls Tryz.prog 69 #[.pointer (some ⟨g,0,none⟩)] wx fun e w'=>e = .returned (.int .i64 (N - (U : Nat))) /\ Below wx.heap.size wx w'):=fun wx b=>by rw [hU];exact rroom_any wx (H.out.on b)
   have C3 : Hid (∀ wx,Below w.heap.size w wx -> Calls Tryz.prog 90 #[.pointer (some ⟨g,0,none⟩)] wx fun e w'=>e = .returned (.int .i64 (U : Nat)) /\ Below wx.heap.size wx w'):=fun wx b=>by rw [hU];exact rused_any wx (H.out.on b)
   have HU:=hid hU
   rw [<- hU] at hrm
   clear hU
   by_cases hfull : N - (U : Nat) < 1 + (q : Nat)
   ·have ha : allocM (ls.map Prod.fst) N kind fl = (0, 3) := by unfold allocM; rw [if_neg hk1, HANY.out, if_neg (by simp), if_pos (by rw [<- HU.out, hn]; exact hfull)]
    have hao : allocO (ls.map Prod.fst) N kind fl = ls.map Prod.fst:=by unfold allocO;rw [ha];rfl
    have HA:=hid ha
    have HAO:=hid hao
    clear ha hao
    go_wp2_with (go_at_call 69;with_reducible refine (C2.out _ HBR.out).mono ?_;rintro e wb ⟨rfl,bb⟩)
    go_ret2
    rw [HA.out,HAO.out]
    exact ⟨rfl,RPost.same H.out (Bt HBR.out bb)⟩
   have ha : allocM (ls.map Prod.fst) N kind fl = (wordR 2 (U : Nat) 0,0):=by unfold allocM;rw [if_neg hk1,HANY.out,if_neg (by simp),if_neg (by rw [<- HU.out,hn];exact hfull),<- HU.out]
   have hao : allocO (ls.map Prod.fst) N kind fl = ls.map Prod.fst ++ [⟨kind,fl⟩]:=by unfold allocO;rw [ha];rfl
   have HA:=hid ha
   have HAO:=hid hao
   clear ha hao
   have C4:=hid (rptr_any U (by omega))
   go_wp2_with (first
    | (go_at_call 69;with_reducible refine (C2.out _ HBR.out).mono ?_;rintro e wb ⟨rfl,bb⟩;have HBB:=hid (Bt HBR.out bb);clear bb)
    | (go_at_call 90;with_reducible refine (C3.out _ HBB.out).mono ?_;rintro e wc ⟨rfl,bc⟩;have HBC:=hid (Bt HBB.out bc);clear bc))
   have HW:=hid (H.out.on HBC.out)
   have HWR:=hid (HR.out.on HBC.out)
   have hlen : ls.length <= 1099511627776:=by have:=len_le_used (ls.map Prod.fst);rw [List.length_map,<- HU.out] at this;omega
   refine wp_region_held_drew (S:=fun _=>True) (by kernel_rfl) trivial (fun hHeld=>?_)
   refine htake 0 (some 35) (.pointer (some ⟨g,0,none⟩)) rfl rfl (by kernel_rfl) (by kernel_rfl) (by kernel_rfl) (fun _ _ _ h=>h) (Or.inl ⟨by rfl,fun wx hSw=>?_⟩) (by assumption) ?_
   ·go_simp
   simp only [Act.put,List.setIfInBounds_toArray,List.set_cons_zero,List.set_cons_succ]
   refine htake 1 (some 36) (.pointer (some ⟨g,0,none⟩)) rfl rfl (by kernel_rfl) (by kernel_rfl) (by kernel_rfl) (fun _ _ _ h=>h) (Or.inl ⟨by rfl,fun wx hSw=>?_⟩) (by assumption) ?_
   ·go_simp
   simp only [Act.put,List.setIfInBounds_toArray,List.set_cons_zero,List.set_cons_succ]
   refine htake 2 (some 37) (.pointer (some ⟨g,0,none⟩)) rfl rfl (by kernel_rfl) (by kernel_rfl) (by kernel_rfl) (fun _ _ _ h=>h) (Or.inl ⟨by rfl,fun wx hSw=>?_⟩) (by assumption) ?_
   ·go_simp
   simp only [Act.put,List.setIfInBounds_toArray,List.set_cons_zero,List.set_cons_succ]
   refine htake 3 (some 38) (.pointer (some ⟨g,1,none⟩)) rfl rfl (by kernel_rfl) (by kernel_rfl) (by kernel_rfl) (fun _ _ _ h=>h) (Or.inl ⟨by rfl,fun wx hSw=>?_⟩) (by assumption) ?_
   ·go_simp
   simp only [Act.put,List.setIfInBounds_toArray,List.set_cons_zero,List.set_cons_succ]
   refine htake 5 (some 40) (.int .i64 (U : Nat)) rfl rfl (by kernel_rfl) (by kernel_rfl) (by kernel_rfl) (fun _ _ _ h=>h) (Or.inl ⟨by rfl,fun wx hSw=>?_⟩) (by assumption) ?_
   ·go_simp
   simp only [Act.put,List.setIfInBounds_toArray,List.set_cons_zero,List.set_cons_succ]
   refine htake 6 (some 41) (.int .i64 kind) rfl rfl (by kernel_rfl) (by kernel_rfl) (by kernel_rfl) (fun _ _ _ h=>h) (Or.inl ⟨by rfl,fun wx hSw=>?_⟩) (by assumption) ?_
   ·go_simp
   simp only [Act.put,List.setIfInBounds_toArray,List.set_cons_zero,List.set_cons_succ]
   refine htake 8 (some 43) (.slice ao q cap) rfl rfl (by kernel_rfl) (by kernel_rfl) (by kernel_rfl) (fun _ _ _ h=>h) (Or.inl ⟨by rfl,fun wx hSw=>?_⟩) (by assumption) ?_
   ·go_simp
   simp only [Act.put,List.setIfInBounds_toArray,List.set_cons_zero,List.set_cons_succ]
   refine wpAnyH_from La Ma (fun a0 s a wx=>s.1 <= 4 /\ ∃ t39 t42 t44 t45 t46,a = ((((a0.put (some 39) t39).put (some 42) t42).put (some 44) t44).put (some 45) t45).put (some 46) t46 /\ ASt wc vL U kind fl s.1 s.2 t39 t42 t44 t45 t46 wx) 4 5 (0,false) rfl ?_ ?_
   ·exact ⟨by omega,undef,undef,undef,undef,undef,rfl,⟨Bd wc 1,fun e=>(by cases e),fun e=>by omega,fun e=>by omega,fun e=>by omega,fun e=>by omega⟩⟩
   clear hHeld
   rintro ⟨k,al⟩ a wx ⟨hk4,t39,t42,t44,t45,t46,rfl,hst⟩
   simp only [Act.put,List.setIfInBounds_toArray,List.set_cons_zero,List.set_cons_succ]
   simp only at hst hk4
   have HSt:=hid hst
   clear hst
   have cg1 : wx.cell? ⟨g,1,none⟩ = some vL:=blk_cell ((HSt.out.bel.block g (HW.out.foot_ge g (.inl rfl)).2).trans HW.out.box) 1
   have hkk : k = 0 \/ k = 1 \/ k = 2 \/ k = 3 \/ k = 4:=by omega
   rcases hkk with rfl | rfl | rfl | rfl | rfl <;> cases al
   ·refine .inr ⟨[4, 7], by decide, by kernel_rfl, by simp, ?_⟩
    refine Steps.cons (0,true) rfl rfl rfl (fun K hK=>?_) ?_
    ·go_simp;exact hK.out _ _ trivial ⟨by omega,_,t42,t44,t45,t46,rfl,HSt.out.load⟩
    refine Steps.cons (1,false) rfl rfl rfl (fun K hK=>?_) ?_
    ·go_simp;exact hK.out _ _ trivial ⟨by omega,t39,_,t44,t45,t46,rfl,HSt.out.s1⟩
    exact Steps.nil
   ·refine .inr ⟨[7], by decide, by kernel_rfl, by simp, ?_⟩
    refine Steps.cons (1,true) rfl rfl rfl (fun K hK=>?_) ?_
    ·go_simp;exact hK.out _ _ trivial ⟨by omega,t39,_,t44,t45,t46,rfl,HSt.out.s1⟩
    exact Steps.nil
   ·refine .inr ⟨[4, 9], by decide, by kernel_rfl, by simp, ?_⟩
    refine Steps.cons (1,true) rfl rfl rfl (fun K hK=>?_) ?_
    ·go_simp;exact hK.out _ _ trivial ⟨by omega,_,t42,t44,t45,t46,rfl,HSt.out.load⟩
    refine Steps.cons (2,false) rfl rfl rfl (fun K hK=>?_) ?_
    ·refine stepU (some 44) rfl rfl _ _ 23 rfl wc.heap.size 44 Tryz.underlying23 info_word _ 0 [] rfl (HSt.out.i1 rfl) ao q cap fl rfl (HWR.out.on HSt.out.bel) (by omega) HSt.out.bel.size ?_
     intro v w' ho hg
     rw [Nat.zero_add,List.nil_append,<- hn] at ho
     exact hK.out _ _ trivial ⟨by omega,t39,t42,_,t45,t46,rfl,HSt.out.s2 ho hg⟩
    exact Steps.nil
   ·refine .inr ⟨[9], by decide, by kernel_rfl, by simp, ?_⟩
    refine Steps.cons (2,true) rfl rfl rfl (fun K hK=>?_) ?_
    ·refine stepU (some 44) rfl rfl _ _ 23 rfl wc.heap.size 44 Tryz.underlying23 info_word _ 0 [] rfl (HSt.out.i1 rfl) ao q cap fl rfl (HWR.out.on HSt.out.bel) (by omega) HSt.out.bel.size ?_
     intro v w' ho hg
     rw [Nat.zero_add,List.nil_append,<- hn] at ho
     exact hK.out _ _ trivial ⟨by omega,t39,t42,_,t45,t46,rfl,HSt.out.s2 ho hg⟩
    exact Steps.nil
   ·refine .inr ⟨[4, 10], by decide, by kernel_rfl, by simp, ?_⟩
    refine Steps.cons (2,true) rfl rfl rfl (fun K hK=>?_) ?_
    ·go_simp;exact hK.out _ _ trivial ⟨by omega,_,t42,t44,t45,t46,rfl,HSt.out.load⟩
    refine Steps.cons (3,false) rfl rfl rfl (fun K hK=>?_) ?_
    ·obtain ⟨aF, nF, cF, rfl⟩ : ∃ aF nF cF, t44 = .slice aF nF cF := by rcases (HSt.out.i2 (by omega)).2 with ⟨h, _⟩ | ⟨g, cap, cur, h, _⟩ <;> exact ⟨_, _, _, h⟩
     go_simp;exact hK.out _ _ trivial ⟨by omega,t39,t42,_,_,t46,rfl,HSt.out.s3⟩
    exact Steps.nil
   ·refine .inr ⟨[10], by decide, by kernel_rfl, by simp, ?_⟩
    refine Steps.cons (3,true) rfl rfl rfl (fun K hK=>?_) ?_
    ·obtain ⟨aF, nF, cF, rfl⟩ : ∃ aF nF cF, t44 = .slice aF nF cF := by rcases (HSt.out.i2 (by omega)).2 with ⟨h, _⟩ | ⟨g, cap, cur, h, _⟩ <;> exact ⟨_, _, _, h⟩
     go_simp;exact hK.out _ _ trivial ⟨by omega,t39,t42,_,_,t46,rfl,HSt.out.s3⟩
    exact Steps.nil
   ·refine .inr ⟨[4, 11], by decide, by kernel_rfl, by simp, ?_⟩
    refine Steps.cons (3,true) rfl rfl rfl (fun K hK=>?_) ?_
    ·go_simp;exact hK.out _ _ trivial ⟨by omega,_,t42,t44,t45,t46,rfl,HSt.out.load⟩
    refine Steps.cons (4,false) rfl rfl rfl (fun K hK=>?_) ?_
    ·obtain rfl := HSt.out.i3 rfl
     obtain ⟨aF,nF,cF,rfl⟩ : ∃ aF nF cF,t44 = .slice aF nF cF:=by rcases (HSt.out.i2 (by omega)).2 with ⟨h,_⟩ | ⟨g,cap,cur,h,_⟩ <;> exact ⟨_,_,_,h⟩
     go_simp;exact hK.out _ _ trivial ⟨by omega,t39,t42,_,_,_,rfl,HSt.out.s4⟩
    exact Steps.nil
   ·refine .inr ⟨[11], by decide, by kernel_rfl, by simp, ?_⟩
    refine Steps.cons (4,true) rfl rfl rfl (fun K hK=>?_) ?_
    ·obtain rfl := HSt.out.i3 rfl
     obtain ⟨aF,nF,cF,rfl⟩ : ∃ aF nF cF,t44 = .slice aF nF cF:=by rcases (HSt.out.i2 (by omega)).2 with ⟨h,_⟩ | ⟨g,cap,cur,h,_⟩ <;> exact ⟨_,_,_,h⟩
     go_simp;exact hK.out _ _ trivial ⟨by omega,t39,t42,_,_,_,rfl,HSt.out.s4⟩
    exact Steps.nil
   ·refine .inr ⟨[4], by decide, by kernel_rfl, by simp, ?_⟩
    refine Steps.cons (4,true) rfl rfl rfl (fun K hK=>?_) ?_
    ·go_simp;exact hK.out _ _ trivial ⟨by omega,_,t42,t44,t45,t46,rfl,HSt.out.load⟩
    exact Steps.nil
   ·refine .inl ⟨rfl, ?_⟩
    obtain ⟨gb,rfl,hgb⟩:=HSt.out.i4 rfl
    obtain rfl:=HSt.out.i0 rfl
    have hrow:=HSt.out.i2 (by omega)
    obtain ⟨aF,nF,cF,rfl⟩ : ∃ aF nF cF,t44 = .slice aF nF cF:=by rcases hrow.2 with ⟨h,_⟩ | ⟨g,cap,cur,h,_⟩ <;> exact ⟨_,_,_,h⟩
    have hnF : nF = fl.length:=by rcases hrow.2 with ⟨h,h'⟩ | ⟨g,cap,cur,h,_⟩ <;> cases h <;> first | rfl | omega
    have HRW:=hid hrow
    have HNF:=hid hnF
    have HOX:=hid (uown_on HW.out.own HSt.out.bel)
    have HBwx : Hid (B <= wx.heap.size):=by have:=HBC.out.size;have:=HSt.out.bel.size;unfold Hid;omega
    have HGB:=hid hgb
    clear cg1 hrow hgb hnF
    refine hone 12 _ rfl (by kernel_rfl) (fun K hK=>?_)
    refine stepO (some 47) rfl rfl _ _ 99 rfl B 98 Tryz.underlying99 info_obj _ ls.length (ocs 0 ls) rfl HOX.out gb 1 U (⟨kind,fl⟩,aF,nF,cF) rfl ?cells hlen HBwx.out ?_
    case cells =>
     intro j u hj
     rw [blk_cell HGB.out]
     simp only [List.getElem?_toArray]
     exact hj
    intro g1 c1 w5 ho hg hl hlt
    rw [HU.out] at ho
    have HP:=hid (HW.out.push (by have:=HBC.out.size;omega) HSt.out.bel HRW.out HNF.out ho hg hl hk2 HR.out.bd (by rw [<- HU.out];omega))
    have q1:=blk_free HP.out.1 1
    have q2 : w5.cell? ⟨g,1,none⟩ = some t39:=blk_cell HP.out.1 1
    clear ho hg hl hlt
    refine hK.out _ _ trivial (fun hHeld=>?_)
    clear hK K hHeld
    try simp only [Act.put,List.setIfInBounds_toArray,List.set_cons_zero,List.set_cons_succ]
    refine hone 13 _ rfl (by kernel_rfl) (fun K hK=>?_)
    go_simp
    refine hK.out _ _ trivial (fun hHeld=>?_)
    clear hK K hHeld
    try simp only [Act.put,List.setIfInBounds_toArray,List.set_cons_zero,List.set_cons_succ]
    refine hone 14 _ rfl (by kernel_rfl) (fun K hK=>?_)
    go_simp
    refine hK.out _ _ trivial (fun hHeld=>?_)
    clear hK K hHeld
    try simp only [Act.put,List.setIfInBounds_toArray,List.set_cons_zero,List.set_cons_succ]
    refine hone 15 _ rfl (by kernel_rfl) (fun K hK=>?_)
    go_simp
    refine hK.out _ _ trivial (fun hHeld=>?_)
    clear hK K hHeld q1 q2
    refine wpAnyH_done (by kernel_rfl) ?_ _
    obtain ⟨_,p1,p2,p3⟩:=HP.out
    have P1:=hid p1
    have P2:=hid p2
    have P3:=hid p3
    clear p1 p2 p3 HP
    generalize w5.setCell ⟨g,1,none⟩ (.slice (some ⟨g1,0,none⟩) (ls.length + 1) c1) = w7 at *
    go_wp2_with (go_at_call 93;with_reducible refine (C4.out _).mono ?_;rintro e wd ⟨rfl,bd⟩)
    go_ret2
    rw [HA.out,HAO.out]
    refine ⟨rfl,_,_,P1.out.on bd,by rw [List.map_append];rfl,fun b hb=>?_,?_⟩
    ·rcases P2.out b hb with h' | h'
     ·exact .inl h'
     ·right;have:=HBC.out.size;omega
    ·exact ((Mod.of_below _ HBC.out).trans P3.out (fun b _ e=>e)).trans (Mod.of_below (fun _=>False) bd) (fun b _ e=>e.elim)
end Go.Proofs.YticimejfjjmikaaGreatDoor
