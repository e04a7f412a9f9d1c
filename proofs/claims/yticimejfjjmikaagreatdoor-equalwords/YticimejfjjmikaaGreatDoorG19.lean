import Derived.Test.YticimejfjjmikaaGreatDoorG18
set_option linter.unusedVariables false
set_option linter.unusedSimpArgs false
namespace Go.Proofs.YticimejfjjmikaaGreatDoor
open Go.RowKit
def nc (x : Nd × (Option Addr × Nat × Nat)) : List Value:=[.int .i64 x.1.kind,.int .i64 x.1.num,.string x.1.text,.slice x.2.1 x.2.2.1 x.2.2.2]
def ncs (l : List (Nd × (Option Addr × Nat × Nat))) : List Value:=l.flatMap nc
theorem ncs_snoc (l : List (Nd × (Option Addr × Nat × Nat))) (x : Nd × (Option Addr × Nat × Nat)) : ncs (l ++ [x]) = ncs l ++ nc x:=by simp [ncs]
theorem ncs_length (l : List (Nd × (Option Addr × Nat × Nat))) : (ncs l).length = l.length * 4:=by
 induction l with
 | nil=>rfl
 | cons x l ih=>simp only [ncs,List.flatMap_cons,List.length_append] at *;rw [ih];simp [nc];omega
theorem ncs_get : ∀ {l : List (Nd × (Option Addr × Nat × Nat))} {i j : Nat},i < l.length -> j < 4 -> (ncs l)[i * 4 + j]? = (nc (l.getD i (default,none,0,0)))[j]?
 | [],_,_,h,_=>by simp at h
 | x :: l,0,j,_,hj=>by
  simp only [ncs,List.flatMap_cons,Nat.zero_mul,Nat.zero_add,List.getD_cons_zero]
  rw [List.getElem?_append_left (by simp [nc];omega)]
 | x :: l,i + 1,j,h,hj=>by
  have ih:=ncs_get (l:=l) (i:=i) (j:=j) (by simpa using h) hj
  simp only [ncs,List.flatMap_cons,List.getD_cons_succ] at *
  rw [List.getElem?_append_right (by simp [nc];omega),<- ih]
  congr 1;simp [nc];omega
structure NOwn (base : Nat) (w : World) (v : Value) (l : List (Nd × (Option Addr × Nat × Nat))) : Prop where
 own : w.ownsRow base 54 4 v l.length (ncs l)
 kids : ∀ x∈l,IRow w x.2.1 x.2.2.1 x.2.2.2 x.1.kids /\ (∀ ad,x.2.1 = some ad -> base <= ad.block /\ ad.block < w.heap.size /\ v.ownBlock ≠ some ad.block)
 ok : ∀ x∈l,NdOk x.1
theorem NOwn.nil (base : Nat) (w : World) : NOwn base w (.slice none 0 0) []:=⟨World.ownsRow_nil _ _ _ _,fun _ h=>(by cases h),fun _ h=>(by cases h)⟩
theorem NOwn.below {base : Nat} {w w' : World} {v : Value} {l : List (Nd × (Option Addr × Nat × Nat))} (h : NOwn base w v l) (hb : Below w.heap.size w w') : NOwn base w' v l:=by
 refine ⟨⟨h.own.1,?_⟩,fun x hx=>⟨(h.kids x hx).1.below hb,fun ad had=>by obtain ⟨q1,q2,q3⟩:=(h.kids x hx).2 ad had;exact ⟨q1,Nat.lt_of_lt_of_le q2 hb.size,q3⟩⟩,h.ok⟩
 rcases h.own.2 with h0 | ⟨g,cap,cur,h1,h2,h3,h4⟩
 ·exact .inl h0
 ·exact .inr ⟨g,cap,cur,h1,h2,(hb.block g (Array.getElem?_eq_some_iff.1 h3).1).trans h3,h4⟩
theorem IRow.frame {w w' : World} {ao : Option Addr} {n cap : Nat} {l : List Int} (h : IRow w ao n cap l) (hs : w.heap.size <= w'.heap.size) (hb : ∀ ad,ao = Option.some ad -> w'.heap[ad.block]? = w.heap[ad.block]?) : IRow w' ao n cap l:=by
 refine ⟨h.len,h.fits,h.most,h.nil_,h.bd,?_⟩
 rcases h.rd with e | ⟨b,o,e,hl,hc⟩
 ·exact .inl e
 ·exact .inr ⟨b,o,e,Nat.lt_of_lt_of_le hl hs,fun i hi=>(World.cell?_of_block (w:=w) (a:=⟨b,o + i,none⟩) (hb ⟨b,o,none⟩ e)).trans (hc i hi)⟩
theorem NOwn.frame {base : Nat} {w w' : World} {v : Value} {l : List (Nd × (Option Addr × Nat × Nat))} (h : NOwn base w v l) (hb : ∀ b,base <= b -> w'.heap[b]? = w.heap[b]?) (hs : w.heap.size <= w'.heap.size) : NOwn base w' v l:=by
 refine ⟨⟨h.own.1,?_⟩,fun x hx=>⟨(h.kids x hx).1.frame hs (fun ad had=>hb _ ((h.kids x hx).2 ad had).1),fun ad had=>by obtain ⟨q1,q2,q3⟩:=(h.kids x hx).2 ad had;exact ⟨q1,Nat.lt_of_lt_of_le q2 hs,q3⟩⟩,h.ok⟩
 rcases h.own.2 with h0 | ⟨g,cap,cur,h1,h2,h3,h4⟩
 ·exact .inl h0
 ·exact .inr ⟨g,cap,cur,h1,h2,(hb g h2).trans h3,h4⟩
theorem NOwn.kept {base : Nat} {w w' : World} {v : Value} {l : List (Nd × (Option Addr × Nat × Nat))} (h : NOwn base w v l) (hb : ∀ b,base <= b -> b < w.heap.size -> w'.heap[b]? = w.heap[b]?) (hs : w.heap.size <= w'.heap.size) : NOwn base w' v l:=by
 refine ⟨⟨h.own.1,?_⟩,fun x hx=>⟨(h.kids x hx).1.frame hs (fun ad had=>hb _ ((h.kids x hx).2 ad had).1 ((h.kids x hx).2 ad had).2.1),fun ad had=>by obtain ⟨q1,q2,q3⟩:=(h.kids x hx).2 ad had;exact ⟨q1,Nat.lt_of_lt_of_le q2 hs,q3⟩⟩,h.ok⟩
 rcases h.own.2 with h0 | ⟨g,cap,cur,h1,h2,h3,h4⟩
 ·exact .inl h0
 ·exact .inr ⟨g,cap,cur,h1,h2,(hb g h2 (Array.getElem?_eq_some_iff.1 h3).1).trans h3,h4⟩
theorem NOwn.pushed {base : Nat} {w : World} {v : Value} {l : List (Nd × (Option Addr × Nat × Nat))} (h : NOwn base w v l) {w' : World} {g cap go : Nat} {d : Nd × (Option Addr × Nat × Nat)} (hgo : go < base)
  (ho : w'.ownsRow base 54 4 (.slice (some ⟨g,0,none⟩) (l.length + 1) cap) (l.length + 1) (ncs l ++ nc d)) (hg : w.grownBy w' v.ownBlock) (hl : v.ownBlock = some g \/ g = w.heap.size) (hd : NdOk d.1)
  (hk : IRow w d.2.1 d.2.2.1 d.2.2.2 d.1.kids) (hkb : ∀ ad,d.2.1 = some ad -> base <= ad.block /\ ad.block < w.heap.size /\ v.ownBlock ≠ some ad.block) :
  NOwn base (w'.setCell ⟨go,0,none⟩ (.slice (some ⟨g,0,none⟩) (l.length + 1) cap)) (.slice (some ⟨g,0,none⟩) (l.length + 1) cap) (l ++ [d]):=by
 have hgb : base <= g:=by
  rcases ho.2 with ⟨h,_⟩ | ⟨g',cap',cur,h,h2,_⟩
  ·cases h
  ·cases h;exact h2
 have hs : (w'.setCell ⟨go,0,none⟩ (.slice (some ⟨g,0,none⟩) (l.length + 1) cap)).heap.size = w'.heap.size:=by simp [World.setCell]
 have key : ∀ (x : Nd × (Option Addr × Nat × Nat)),IRow w x.2.1 x.2.2.1 x.2.2.2 x.1.kids -> (∀ ad,x.2.1 = some ad -> base <= ad.block /\ ad.block < w.heap.size /\ v.ownBlock ≠ some ad.block) ->
   IRow (w'.setCell ⟨go,0,none⟩ (.slice (some ⟨g,0,none⟩) (l.length + 1) cap)) x.2.1 x.2.2.1 x.2.2.2 x.1.kids /\ (∀ ad,x.2.1 = some ad -> base <= ad.block /\ ad.block < (w'.setCell ⟨go,0,none⟩ (.slice (some ⟨g,0,none⟩) (l.length + 1) cap)).heap.size /\ (Value.slice (some ⟨g,0,none⟩) (l.length + 1) cap).ownBlock ≠ some ad.block):=by
  intro x hx hxb
  refine ⟨hx.frame (by rw [hs];exact hg.size) (fun ad had=>?_),fun ad had=>?_⟩
  ·obtain ⟨q1, q2, q3⟩ := hxb ad had
   exact (Below.heap_setCell _ _ _ _ (by show ad.block ≠ go;omega)).trans (hg.block _ q2 (fun e=>q3 e.symm))
  ·obtain ⟨q1, q2, q3⟩ := hxb ad had
   refine ⟨q1,by rw [hs];exact Nat.lt_of_lt_of_le q2 hg.size,fun e=>?_⟩
   have e' : g = ad.block:=Option.some.inj e
   rcases hl with h' | h'
   ·exact q3 (by rw [h',e'])
   ·omega
 refine ⟨?_,?_,?_⟩
 ·rw [ncs_snoc, List.length_append, List.length_singleton]
  refine ⟨ho.1,?_⟩
  rcases ho.2 with ⟨h,_⟩ | ⟨g',cap',cur,h1,h2,h3,h4⟩
  ·cases h
  ·cases h1
   exact .inr ⟨g,cap,cur,rfl,h2,(Below.heap_setCell _ _ _ _ (by show g ≠ go;omega)).trans h3,h4⟩
 ·intro x hx
  rcases List.mem_append.1 hx with hx | hx
  ·exact key x (h.kids x hx).1 (h.kids x hx).2
  ·obtain rfl : x = d := by simpa using hx
   exact key x hk hkb
 ·intro x hx
  rcases List.mem_append.1 hx with hx | hx
  ·exact h.ok x hx
  ·obtain rfl : x = d := by simpa using hx
   exact hd
theorem NOwn.row {base : Nat} {w : World} {v : Value} {l : List (Nd × (Option Addr × Nat × Nat))} (h : NOwn base w v l) : ∃ ao cap,v = .slice ao l.length cap /\ NRow w ao l.length cap (l.map Prod.fst):=by
 have hok : ∀ d∈l.map Prod.fst,NdOk d:=fun d hd=>by obtain ⟨x,hx,rfl⟩:=List.mem_map.1 hd;exact h.ok x hx
 rcases h.own.2 with ⟨rfl,h0⟩ | ⟨g,cap,cur,rfl,h2,h3,h4,h5,h6,h7⟩
 ·have : l = [] := List.length_eq_zero_iff.1 h0
  subst this
  exact ⟨none,0,rfl,NRow.nil _ _⟩
 ·refine ⟨some ⟨g, 0, none⟩, cap, rfl, by simp, h4, h5, fun e => (by cases e), hok, .inr ⟨g, 0, rfl, (Array.getElem?_eq_some_iff.1 h3).1, fun i hi => ?_⟩⟩
  have hil : i < l.length:=by simpa using hi
  have hcell : ∀ j,j < 4 -> w.cell? ⟨g,0 + i * 4 + j,none⟩ = (nc (l.getD i (default,none,0,0)))[j]?:=fun j hj=>by
   rw [blk_cell h3,<- ncs_get hil hj,<- h7,List.getElem?_take,if_pos (by omega),Array.getElem?_toList,Nat.zero_add]
  have hd : (l.map Prod.fst).getD i default = (l.getD i (default,none,0,0)).1:=by
   rw [List.getD_eq_getElem?_getD,List.getElem?_map,List.getD_eq_getElem?_getD,List.getElem?_eq_getElem hil];rfl
  have hmem : l.getD i (default,none,0,0)∈l:=by
   rw [List.getD_eq_getElem?_getD,List.getElem?_eq_getElem hil];exact List.getElem_mem hil
  rw [hd]
  exact ⟨hcell 0 (by omega),hcell 1 (by omega),hcell 2 (by omega),_,_,_,hcell 3 (by omega),(h.kids _ hmem).1⟩
theorem info_node : (Tryz.prog.info? 54).map (fun i=>(i.zero,i.size,i.bytes)) = some (some (.agg #[.int .i64 0,.int .i64 0,.string ByteArray.empty,.slice none 0 0]),4,56):=by kernel_rfl
theorem appn {P : Program} {w : World} {ops : Array Oper} {rest : List Oper} {o : Oper} {a : Act} {Q : Exit -> Act -> World -> Prop} (hgd : o.guard = none) (s x : Operand) (t : TypeId) (ho : o.op = .call { callee:=.builtin .append,args:=#[s,x],argTypes:=#[t,t] })
  (base : Nat) (e : TypeId) (ht : P.underlying t = some (.slice e)) (hi : (P.info? e).map (fun i=>(i.zero,i.size,i.bytes)) = some (some (.agg #[.int .i64 0,.int .i64 0,.string ByteArray.empty,.slice none 0 0]),4,56))
  (v : Value) (n : Nat) (xs : List Value) (hs : a.eval s = v) (hown : w.ownsRow base e 4 v n xs)
  (g0 c : Nat) (d : Nd × (Option Addr × Nat × Nat)) (hx : a.eval x = .slice (some ⟨g0,0,none⟩) 1 c) (hd : ∀ j u,(nc d)[j]? = some u -> w.cell? ⟨g0,j,none⟩ = some u) (hsm : n <= 1000000) (hbase : base <= w.heap.size)
  (h : ∀ g cap w',w'.ownsRow base e 4 (.slice (some ⟨g,0,none⟩) (n + 1) cap) (n + 1) (xs ++ nc d) -> w.grownBy w' v.ownBlock -> (v.ownBlock = some g \/ g = w.heap.size) -> g < w'.heap.size -> wpList P ops Q rest (a.put o.dst (.slice (some ⟨g,0,none⟩) (n + 1) cap)) w') :
  wpList P ops Q (o :: rest) a w:=by
 obtain ⟨i0,hi0,hz0,hz1,hz2⟩:=info_parts hi
 refine wpList_append_lies w hgd s x t ho base e i0 _ 4 56 ht hi0 hz0 hz1 hz2 rfl (by decide) v n xs hs hown ⟨g0,0,none⟩ 1 c (nc d) hx rfl ?_ ?_ (by decide) (by unfold maxLen;omega) (by omega) hbase w.heap.size rfl h
 ·intro j u hj
  have:=hd j u hj
  unfold Addr.add
  by_cases hj0 : j = 0
  ·subst hj0;simpa using this
  ·rw [if_neg hj0];simpa using this
 ·intro u hu;simp [nc] at hu;rcases hu with rfl | rfl | rfl | rfl <;> rfl
theorem nfar {base go : Nat} {w w' : World} {v : Value} {l : List (Nd × (Option Addr × Nat × Nat))} (h : NOwn base w v l) (hg : w.grownBy w' v.ownBlock) {a b : Value} {t : TypeId} (hc : w.heap[go]? = some (.cells #[a,b] t (0,0))) (hgo : go < base) :
  w'.frozen? ⟨go,0,none⟩ = false /\ w'.cell? ⟨go,0,none⟩ = some a:=by
 have hne : some go ≠ v.ownBlock:=by
  intro e
  rcases h.own.2 with ⟨rfl,_⟩ | ⟨g,cap,cur,rfl,h2,_⟩
  ·cases e
  ·have : go = g := Option.some.inj e
   omega
 have:=(hg.block go (Array.getElem?_eq_some_iff.1 hc).1 hne).trans hc
 exact ⟨blk_free this 0,blk_cell this 0⟩
theorem news_of {w : World} {g j : Nat} {u : Value} {d : Nd × (Option Addr × Nat × Nat)} {t : TypeId} (h : w.heap[g]? = some (.cells #[.int .i64 d.1.kind,.int .i64 d.1.num,.string d.1.text,.slice d.2.1 d.2.2.1 d.2.2.2] t (0,0))) (hj : (nc d)[j]? = some u) : w.cell? ⟨g,j,none⟩ = some u:=by
 rw [blk_cell h];rw [<- hj];simp [nc]
def newNode (ns : List Nd) (pl : List Int) (o : Int) : Nd:={ ns.getD o.toNat default with kids:=renum pl (ns.getD o.toNat default).kids }
set_option maxHeartbeats 4000000 in
theorem met_any (base : Nat) (w0 w : World) (B0 gp Bm : Nat) (an : Option Addr) (nn cn : Nat) (ar : Option Addr) (nr cr : Nat) (ns : List Nd) (rs pl ord : List Int) (vo : Value) (hnn : nn <= 2500) (hb : base = w0.heap.size) (hol : ord.length <= nn) (hnr : nr <= 2500)
  (G : GIs w0 an nn cn ar nr cr ns rs) (W : WCore base w0 w B0 gp Bm an nn cn ar nr cr pl ord vo) (hord : ∀ z∈ord,0 <= z /\ z < nn) (hk : ∀ d∈ns,placesB d.kids nn = true /\ d.kids.length <= 2500) (hr : placesB rs nn = true) (hpl : ∀ z∈pl,I64 z) :
  Calls Tryz.prog 79 #[.pointer (some ⟨B0,0,none⟩)] w fun e w'=>∃ an' nn' cn' ar' nr' cr',e = .returned (GVal an' nn' cn' ar' nr' cr') /\ (∀ w'' : World,(∀ b,base <= b -> b < w'.heap.size -> w''.heap[b]? = w'.heap[b]?) -> w'.heap.size <= w''.heap.size -> GIs w'' an' nn' cn' ar' nr' cr' (ord.map (newNode ns pl)) (renum pl rs)) /\ Below base w w':=by
 have HW:=hid W
 have HG:=hid G
 obtain ⟨ao,no,co,rfl⟩ : ∃ ao no co,vo = .slice ao no co:=by
  rcases W.order.2 with ⟨h,_⟩ | ⟨g,cap,cur,h,_⟩ <;> exact ⟨_,_,_,h⟩
 have hno : no = ord.length:=by
  rcases W.order.2 with ⟨h,h2⟩ | ⟨g,cap,cur,h,_⟩
  ·cases h;exact h2.symm
  ·cases h;rfl
 have hco : no <= co /\ co <= 9223372036854775807:=by
  rcases W.order.2 with ⟨h,h2⟩ | ⟨g,cap,cur,h,_,_,h3,h4,_⟩
  ·cases h;omega
  ·cases h;unfold maxLen at h4;omega
 obtain ⟨hco1,hco2⟩:=hco
 subst hno
 have HO:=hid hord
 have HK:=hid hk
 have HR:=hid hr
 have HPL:=hid hpl
 have c3 : w.cell? ⟨B0,3,none⟩ = some (.slice ao ord.length co):=blk_cell W.box 3
 have hlB:=W.lt
 have c3' : ∀ ob,(w.alloc ob).cell? ⟨B0,3,none⟩ = some (.slice ao ord.length co):=fun ob=>(cell_old _ _ _ _ hlB).trans c3
 have c3'' : ∀ ob ob',((w.alloc ob).alloc ob').cell? ⟨B0,3,none⟩ = some (.slice ao ord.length co):=fun ob ob'=>(cell_old _ _ _ _ (by rw [size_alloc];omega)).trans (c3' ob)
 clear W G hord hk hr hpl
 go_enter Tryz.func79,Tryz.ntmps79
 go_wp2_with fail
 have bA:=Baa w (.cells #[.slice none 0 0,.slice none 0 0] 34) (.cells #[.slice none 0 0,.slice none 0 0] 34)
 have x1:=(GBox.new 34 w none none 0 0 0 0).on (Ba (w.alloc (.cells #[.slice none 0 0,.slice none 0 0] 34)) (.cells #[.slice none 0 0,.slice none 0 0] 34))
 have x2:=GBox.new 34 (w.alloc (.cells #[.slice none 0 0,.slice none 0 0] 34)) none none 0 0 0 0
 have hsz : ((w.alloc (.cells #[.slice none 0 0,.slice none 0 0] 34)).alloc (.cells #[.slice none 0 0,.slice none 0 0] 34)).heap.size = w.heap.size + 1 + 1:=by rw [size_alloc,size_alloc]
 rw [size_alloc] at x2
 generalize (w.alloc (.cells #[.slice none 0 0,.slice none 0 0] 34)).alloc (.cells #[.slice none 0 0,.slice none 0 0] 34) = W1 at *
 obtain ⟨gr,hgr⟩ : ∃ g,g = w.heap.size:=⟨_,rfl⟩
 obtain ⟨go,hgo⟩ : ∃ g,g = w.heap.size + 1:=⟨_,rfl⟩
 rw [<- hgo] at x2
 rw [<- hgr] at x1
 rw [<- hgo,<- hgr]
 have hne : Hid (gr ≠ go /\ w.heap.size <= gr /\ w.heap.size <= go /\ gr < W1.heap.size /\ go < W1.heap.size):=by refine ⟨?_,?_,?_,?_,?_⟩ <;> omega
 have HB1:=hid bA
 have X1:=hid x1
 have X2:=hid x2
 clear x1 x2 bA hsz hgr hgo c3 c3' c3''
 go_loopw [12] (fun i wr=>∃ m : Nat,m <= ord.length /\ i = .int .i64 m /\ Hid (∃ vN ls,wr.heap[go]? = some (.cells #[vN,.slice none 0 0] 34 (0,0)) /\ wr.heap[gr]? = W1.heap[gr]? /\ NOwn W1.heap.size wr vN ls /\ ls.map Prod.fst = (ord.take m).map (newNode ns pl) /\ Below w.heap.size w wr /\ W1.heap.size <= wr.heap.size)) (fun i _=>ord.length - (intOf i).toNat)
 case atStart=>exact ⟨0,Nat.zero_le _,rfl,.slice none 0 0,[],X2.out,rfl,NOwn.nil _ _,rfl,HB1.out,Nat.le_refl _⟩
 case round =>
  obtain ⟨m,hmn,rfl,hI⟩:=hrel
  obtain ⟨vN,ls,h1,h2,h3,h4,h5,h6⟩:=hI.out
  obtain ⟨av,cv,rfl,hNR⟩:=h3.row
  have hNRH:=hid hNR
  clear hNR
  by_cases hlt : m < ord.length
  ·obtain ⟨z, hz⟩ : ∃ z, z = ord.getD m 0 := ⟨_, rfl⟩
   have hzr:=HO.out z (by rw [hz,List.getD_eq_getElem?_getD,List.getElem?_eq_getElem hlt];exact List.getElem_mem hlt)
   obtain ⟨on,rfl⟩:=Int.eq_ofNat_of_zero_le hzr.1
   have hon : on < nn:=by omega
   have hW:=HW.out.on h5
   have c0 : wr.cell? ⟨B0,0,none⟩ = some (.slice an nn cn):=blk_cell hW.box 0
   have hoc : ∃ gq,ao = some ⟨gq,0,none⟩ /\ wr.cell? ⟨gq,m,none⟩ = some (.int .i64 (on : Int)):=by
    rcases hW.order.2 with ⟨h,h0⟩ | ⟨gq,cap,cur,h,hh⟩
    ·omega
    ·cases h
     refine ⟨gq,rfl,?_⟩
     rw [hz];exact owns_cell hW.order hlt
   obtain ⟨gq,rfl,cq⟩:=hoc
   obtain ⟨b,ob,rfl,hlb,hcn⟩:=HG.out.nodes.some (by omega)
   have hnd:=(hcn on hon).below hlb (by rw [<- hb];exact hW.bel)
   have hdok:=HG.out.nodes.get hon
   obtain ⟨k1,k2,k3,ak,nk,ck,k4,k5⟩:=hnd
   have hmemd : ns.getD on default∈ns:=getD_mem_nd (by rw [HG.out.nodes.len];exact hon)
   obtain ⟨hkp,hkl⟩:=HK.out _ hmemd
   have hnew : newNode ns pl (on : Int) = { ns.getD on default with kids:=renum pl (ns.getD on default).kids }:=rfl
   have htk : (ord.take (m + 1)).map (newNode ns pl) = (ord.take m).map (newNode ns pl) ++ [newNode ns pl (on : Int)]:=by
    rw [List.take_succ_eq_append_getElem hlt,List.map_append]
    congr 1
    simp only [List.map_cons,List.map_nil]
    have : ord[m] = (on : Int):=by rw [hz,List.getD_eq_getElem?_getD,List.getElem?_eq_getElem hlt];rfl
    rw [this]
   have HTK:=hid htk
   have HNEW:=hid hnew
   generalize ns.getD on default = d at *
   obtain ⟨dk,dn,dt,dl⟩:=d
   simp only [] at k1 k2 k3 k5 hkp hkl hdok
   have bN:=Ba wr (.cells #[.int .i64 dk,.int .i64 dn,.string dt,.slice ak nk ck] 54)
   have hbk:=blk_new wr #[.int .i64 dk,.int .i64 dn,.string dt,.slice ak nk ck] 54
   have HBN:=hid bN
   have HBK:=hid hbk
   have HWN:=hid (hW.on bN)
   have HKR:=hid (k5.below bN)
   have HKP:=hid (places_rng hkp)
   have hnk1:=k5.fits
   have hnk2:=k5.most
   have hnk3:=k5.len
   unfold maxLen at hnk2
   have hn1:=HG.out.nodes.fits
   have hn2:=HG.out.nodes.most
   unfold maxLen at hn2
   have H1:=hid h1
   have H2:=hid h2
   have H3:=hid h3
   have H4:=hid h4
   have H5:=hid h5
   have H6:=hid h6
   have hgl : go < wr.heap.size:=(Array.getElem?_eq_some_iff.1 h1).1
   clear h1 h2 h3 h4 h5 h6 hI hz hW hcn k5 bN hbk hnew htk hkp
   go_wp2_with fail
   obtain ⟨gn,hgn⟩ : ∃ g,g = wr.heap.size:=⟨_,rfl⟩
   have hsz2:=size_alloc wr (.cells #[.int .i64 dk,.int .i64 dn,.string dt,.slice ak nk ck] 54)
   rw [<- hgn] at HBK hsz2
   rw [<- hgn]
   generalize wr.alloc (.cells #[.int .i64 dk,.int .i64 dn,.string dt,.slice ak nk ck] 54) = W2 at *
   refine (renumbered_any base w0 W2 B0 gp Bm _ nn cn ar nr cr pl ord _ HWN.out ak nk ck dl HKR.out HKP.out (by omega) hnn).mono ?_
   rintro e w3 ⟨v,rfl,hown3,b3⟩
   have hren : ∀ z∈renum pl dl,I64 z:=by
    intro z hz
    obtain ⟨q,hq,rfl⟩:=List.mem_map.1 hz
    have hqr:=HKP.out q hq
    have hql : q.toNat < pl.length:=by rw [HWN.out.plen];omega
    exact HPL.out _ (by rw [List.getD_eq_getElem?_getD,List.getElem?_eq_getElem hql];exact List.getElem_mem hql)
   obtain ⟨ak',ck',rfl,hIR⟩:=irow_of hown3 hren
   have hblk3:=(b3.block gn (by omega)).trans HBK.out
   have f3 : w3.frozen? ⟨gn,3,none⟩ = false:=blk_free hblk3 3
   have cc3 : w3.cell? ⟨gn,3,none⟩ = some (.slice ak nk ck):=blk_cell hblk3 3
   have hblk4 : (w3.setCell ⟨gn,3,none⟩ (.slice ak' nk ck')).heap[gn]? = some (.cells #[.int .i64 dk,.int .i64 dn,.string dt,.slice ak' nk ck'] 54 (0,0)):=by
    have:=blk_set (i:=3) hblk3 (.slice ak' nk ck');rw [this];rfl
   have B4 : Below wr.heap.size wr (w3.setCell ⟨gn,3,none⟩ (.slice ak' nk ck')):=(HBN.out.trans (b3.mono HBN.out.size)).setCell (p:=⟨gn,3,none⟩) (by show wr.heap.size <= gn;omega) _
   have hown4 : (w3.setCell ⟨gn,3,none⟩ (.slice ak' nk ck')).ownsRow W2.heap.size 3 1 (.slice ak' nk ck') nk (cz (renum pl dl)):=owns_frame hown3 (fun b hb'=>Below.heap_setCell _ _ _ _ (by have:=(hown3.lt b hb').1;show b ≠ gn;omega))
   have hkl4 : ∀ ad,ak' = some ad -> W2.heap.size <= ad.block /\ ad.block < (w3.setCell ⟨gn,3,none⟩ (.slice ak' nk ck')).heap.size:=fun ad had=>hown4.lt ad.block (by rw [had];rfl)
   obtain ⟨_,_,hve,hIR4⟩:=irow_of hown4 hren
   cases hve
   have n0 : (w3.setCell ⟨gn,3,none⟩ (.slice ak' nk ck')).cell? ⟨gn,0,none⟩ = some (.int .i64 dk):=blk_cell hblk4 0
   have n1 : (w3.setCell ⟨gn,3,none⟩ (.slice ak' nk ck')).cell? ⟨gn,1,none⟩ = some (.int .i64 dn):=blk_cell hblk4 1
   have n2 : (w3.setCell ⟨gn,3,none⟩ (.slice ak' nk ck')).cell? ⟨gn,2,none⟩ = some (.string dt):=blk_cell hblk4 2
   have n3 : (w3.setCell ⟨gn,3,none⟩ (.slice ak' nk ck')).cell? ⟨gn,3,none⟩ = some (.slice ak' nk ck'):=blk_cell hblk4 3
   have hgo4:=(B4.block go hgl).trans H1.out
   have g0c : (w3.setCell ⟨gn,3,none⟩ (.slice ak' nk ck')).cell? ⟨go,0,none⟩ = some (.slice av ls.length cv):=blk_cell hgo4 0
   have hs4 : (w3.setCell ⟨gn,3,none⟩ (.slice ak' nk ck')).heap.size = w3.heap.size:=by simp [World.setCell]
   have bA:=Ba (w3.setCell ⟨gn,3,none⟩ (.slice ak' nk ck')) (.cells #[.int .i64 dk,.int .i64 dn,.string dt,.slice ak' nk ck'] 54)
   have hnA:=blk_new (w3.setCell ⟨gn,3,none⟩ (.slice ak' nk ck')) #[.int .i64 dk,.int .i64 dn,.string dt,.slice ak' nk ck'] 54
   rw [hs4] at hnA
   have HNA:=hid hnA
   have HBA:=hid (B4.trans (bA.mono B4.size))
   have HNO:=hid ((H3.out.below B4).below bA)
   have HIA:=hid (hIR4.below bA)
   have HKA : Hid (∀ ad,ak' = some ad -> W2.heap.size <= ad.block /\ ad.block < ((w3.setCell ⟨gn,3,none⟩ (.slice ak' nk ck')).alloc (.cells #[.int .i64 dk,.int .i64 dn,.string dt,.slice ak' nk ck'] 54)).heap.size):=fun ad had=>⟨(hkl4 ad had).1,Nat.lt_of_lt_of_le (hkl4 ad had).2 bA.size⟩
   have HGA:=hid ((bA.block go (Nat.lt_of_lt_of_le hgl B4.size)).trans hgo4)
   have hls : ls.length = m:=by
    have:=congrArg List.length H4.out;simpa [List.length_take,Nat.min_eq_left hmn] using this
   have HLS:=hid hls
   have hsmall : ls.length <= 1000000:=by omega
   have hgw : Hid (wr.heap.size <= gn):=by unfold Hid;omega
   have hw23 : Hid (W2.heap.size <= w3.heap.size):=b3.size
   have hsW : W1.heap.size <= ((w3.setCell ⟨gn,3,none⟩ (.slice ak' nk ck')).alloc (.cells #[.int .i64 dk,.int .i64 dn,.string dt,.slice ak' nk ck'] 54)).heap.size:=Nat.le_trans H6.out HBA.out.size
   have HSW:=hid hsW
   have hIW:=HBN.out.size
   have HIW:=hid hIW
   clear hgn hren hown3 hown4 hIR hIR4 hblk3 hblk4 B4 hkl4 hgo4 b3 k1 k2 k3 k4 c0 cq hs4 bA hnA hls hsW hIW
   go_wp2_with (at_builtin;refine appn rfl _ _ 31 rfl W1.heap.size 54 Tryz.underlying31 info_node _ _ (ncs ls) rfl HNO.out.own w3.heap.size 1 (⟨dk,dn,dt,renum pl dl⟩,ak',nk,ck') rfl ?c0 hsmall HSW.out ?_;rotate_right;intro g cap w6 hown hgrow hloc hglt;obtain ⟨q1,q2⟩:=nfar HNO.out hgrow HGA.out hne.out.2.2.2.2)
   case c0=>intro j u hj;exact news_of HNA.out hj
   have hgob : go < W1.heap.size:=hne.out.2.2.2.2
   have hNP:=HNO.out.pushed (d:=(⟨dk,dn,dt,renum pl dl⟩,ak',nk,ck')) hgob hown hgrow hloc hdok HIA.out (fun ad had=>?kb)
   case kb =>
    obtain ⟨z1,z2⟩:=HKA.out ad had
    refine ⟨Nat.le_trans H6.out (Nat.le_trans HIW.out z1),z2,fun e=>?_⟩
    have:=H3.out.own.lt _ e
    have:=HIW.out
    omega
   have hrowge : ∀ k,(Value.slice av ls.length cv).ownBlock = some k -> W1.heap.size <= k:=fun k hk=>(H3.out.own.lt k hk).1
   have hB6 : Below W1.heap.size wr w6:=(HBA.out.mono H6.out).grown hgrow HSW.out hrowge
   have hgo6:=(hgrow.block go (Array.getElem?_eq_some_iff.1 HGA.out).1 (fun e=>by have:=hrowge go e.symm;omega)).trans HGA.out
   have hgr6:=hB6.block gr (by exact hne.out.2.2.2.1)
   refine ⟨⟨m + 1,by omega,by go_num,.slice (some ⟨g,0,none⟩) (ls.length + 1) cap,ls ++ [(⟨dk,dn,dt,renum pl dl⟩,ak',nk,ck')],?_,?_,?_,?_,?_,?_⟩,by simp [intOf] <;> omega⟩
   ·have:=blk_set (i:=0) hgo6 (.slice (some ⟨g,0,none⟩) (ls.length + 1) cap);rw [this];rfl
   ·exact (Below.heap_setCell _ _ _ _ (by show gr ≠ go;exact hne.out.1)).trans (hgr6.trans H2.out)
   ·exact hNP
   ·rw [HTK.out,List.map_append,H4.out,HNEW.out];rfl
   ·exact (H5.out.trans (hB6.mono HB1.out.size)).setCell (p:=⟨go,0,none⟩) (by exact hne.out.2.2.1) _
   ·have:=hB6.size;have:=H6.out;simp [World.setCell];omega
  ·obtain rfl : m = ord.length := by omega
   have hW:=HW.out.on h5
   have c1 : wr.cell? ⟨B0,1,none⟩ = some (.slice ar nr cr):=blk_cell hW.box 1
   have hrt:=HG.out.roots.below (by rw [<- hb];exact hW.bel)
   have hr1:=hrt.fits
   have hr2:=hrt.most
   have hr3:=hrt.len
   unfold maxLen at hr2
   have HWN:=hid hW
   have HKR:=hid hrt
   have HKP:=hid (places_rng HR.out)
   have H1:=hid h1
   have H2:=hid h2
   have H3:=hid h3
   have H4:=hid h4
   have H5:=hid h5
   have H6:=hid h6
   have hgl : go < wr.heap.size:=(Array.getElem?_eq_some_iff.1 h1).1
   clear h1 h2 h3 h4 h5 h6 hI hW hrt
   go_wp2_with fail
   refine (renumbered_any base w0 wr B0 gp Bm _ nn cn ar nr cr pl ord _ HWN.out ar nr cr rs HKR.out HKP.out (by omega) hnn).mono ?_
   rintro e w3 ⟨v,rfl,hown3,b3⟩
   have hren : ∀ z∈renum pl rs,I64 z:=by
    intro z hz
    obtain ⟨q,hq,rfl⟩:=List.mem_map.1 hz
    have hqr:=HKP.out q hq
    have hql : q.toNat < pl.length:=by rw [HWN.out.plen];omega
    exact HPL.out _ (by rw [List.getD_eq_getElem?_getD,List.getElem?_eq_getElem hql];exact List.getElem_mem hql)
   obtain ⟨ak',ck',rfl,hIR⟩:=irow_of hown3 hren
   have hgo3:=(b3.block go hgl).trans H1.out
   have hgrl : gr < wr.heap.size:=Nat.lt_of_lt_of_le hne.out.2.2.2.1 H6.out
   have hgr3 : w3.heap[gr]? = some (.cells #[.slice none 0 0,.slice none 0 0] 34 (0,0)):=(b3.block gr hgrl).trans (H2.out.trans X1.out)
   have hgne : gr ≠ go:=hne.out.1
   have f1 : w3.frozen? ⟨go,1,none⟩ = false:=blk_free hgo3 1
   have c1' : w3.cell? ⟨go,1,none⟩ = some (.slice none 0 0):=blk_cell hgo3 1
   have hS1 : (w3.setCell ⟨go,1,none⟩ (.slice ak' nr ck')).heap[go]? = some (.cells #[.slice av ls.length cv,.slice ak' nr ck'] 34 (0,0)):=by
    have:=blk_set (i:=1) hgo3 (.slice ak' nr ck');rw [this];rfl
   have hS1r : (w3.setCell ⟨go,1,none⟩ (.slice ak' nr ck')).heap[gr]? = some (.cells #[.slice none 0 0,.slice none 0 0] 34 (0,0)):=(Below.heap_setCell _ _ _ _ (by show gr ≠ go;exact hgne)).trans hgr3
   have d0 : (w3.setCell ⟨go,1,none⟩ (.slice ak' nr ck')).cell? ⟨go,0,none⟩ = some (.slice av ls.length cv):=blk_cell hS1 0
   have d1 : (w3.setCell ⟨go,1,none⟩ (.slice ak' nr ck')).cell? ⟨go,1,none⟩ = some (.slice ak' nr ck'):=blk_cell hS1 1
   have e0 : (w3.setCell ⟨go,1,none⟩ (.slice ak' nr ck')).cell? ⟨gr,0,none⟩ = some (.slice none 0 0):=blk_cell hS1r 0
   have e1 : (w3.setCell ⟨go,1,none⟩ (.slice ak' nr ck')).cell? ⟨gr,1,none⟩ = some (.slice none 0 0):=blk_cell hS1r 1
   have fr0 : (w3.setCell ⟨go,1,none⟩ (.slice ak' nr ck')).frozen? ⟨gr,0,none⟩ = false:=blk_free hS1r 0
   have fr1 : (w3.setCell ⟨go,1,none⟩ (.slice ak' nr ck')).frozen? ⟨gr,1,none⟩ = false:=blk_free hS1r 1
   have hS2 : ((w3.setCell ⟨go,1,none⟩ (.slice ak' nr ck')).setCell ⟨gr,0,none⟩ (.slice av ls.length cv)).heap[gr]? = some (.cells #[.slice av ls.length cv,.slice none 0 0] 34 (0,0)):=by
    have:=blk_set (i:=0) hS1r (.slice av ls.length cv);rw [this];rfl
   have e1' : ((w3.setCell ⟨go,1,none⟩ (.slice ak' nr ck')).setCell ⟨gr,0,none⟩ (.slice av ls.length cv)).cell? ⟨gr,1,none⟩ = some (.slice none 0 0):=blk_cell hS2 1
   have fr1' : ((w3.setCell ⟨go,1,none⟩ (.slice ak' nr ck')).setCell ⟨gr,0,none⟩ (.slice av ls.length cv)).frozen? ⟨gr,1,none⟩ = false:=blk_free hS2 1
   have hS3 : (((w3.setCell ⟨go,1,none⟩ (.slice ak' nr ck')).setCell ⟨gr,0,none⟩ (.slice av ls.length cv)).setCell ⟨gr,1,none⟩ (.slice ak' nr ck')).heap[gr]? = some (.cells #[.slice av ls.length cv,.slice ak' nr ck'] 34 (0,0)):=by
    have:=blk_set (i:=1) hS2 (.slice ak' nr ck');rw [this];rfl
   have r0 : (((w3.setCell ⟨go,1,none⟩ (.slice ak' nr ck')).setCell ⟨gr,0,none⟩ (.slice av ls.length cv)).setCell ⟨gr,1,none⟩ (.slice ak' nr ck')).cell? ⟨gr,0,none⟩ = some (.slice av ls.length cv):=blk_cell hS3 0
   have r1 : (((w3.setCell ⟨go,1,none⟩ (.slice ak' nr ck')).setCell ⟨gr,0,none⟩ (.slice av ls.length cv)).setCell ⟨gr,1,none⟩ (.slice ak' nr ck')).cell? ⟨gr,1,none⟩ = some (.slice ak' nr ck'):=blk_cell hS3 1
   have hnlow : w.heap.size <= gr /\ w.heap.size <= go:=⟨hne.out.2.1,hne.out.2.2.1⟩
   have BE : Below w.heap.size wr (((w3.setCell ⟨go,1,none⟩ (.slice ak' nr ck')).setCell ⟨gr,0,none⟩ (.slice av ls.length cv)).setCell ⟨gr,1,none⟩ (.slice ak' nr ck')):=(((b3.mono H5.out.size).setCell (p:=⟨go,1,none⟩) hnlow.2 _).setCell (p:=⟨gr,0,none⟩) hnlow.1 _).setCell (p:=⟨gr,1,none⟩) hnlow.1 _
   have HBE:=hid BE
   have HIRE : Hid (IRow (((w3.setCell ⟨go,1,none⟩ (.slice ak' nr ck')).setCell ⟨gr,0,none⟩ (.slice av ls.length cv)).setCell ⟨gr,1,none⟩ (.slice ak' nr ck')) ak' nr ck' (renum pl rs)):=hIR.frame (by simp [World.setCell]) (fun ad had=>by
    have hl:=(hown3.lt ad.block (by rw [had];rfl)).1
    exact (Below.heap_setCell _ _ _ _ (by show ad.block ≠ gr;omega)).trans ((Below.heap_setCell _ _ _ _ (by show ad.block ≠ gr;omega)).trans (Below.heap_setCell _ _ _ _ (by show ad.block ≠ go;omega))))
   have HKB : Hid (∀ ad,ak' = some ad -> wr.heap.size <= ad.block /\ ad.block < w3.heap.size):=fun ad had=>⟨(hown3.lt ad.block (by rw [had];rfl)).1,(hown3.lt ad.block (by rw [had];rfl)).2⟩
   have HNE : Hid (NOwn W1.heap.size (((w3.setCell ⟨go,1,none⟩ (.slice ak' nr ck')).setCell ⟨gr,0,none⟩ (.slice av ls.length cv)).setCell ⟨gr,1,none⟩ (.slice ak' nr ck')) (.slice av ls.length cv) ls):=by
    have h0:=H3.out.below b3
    refine h0.frame (fun b hb=>?_) (by simp [World.setCell])
    have:=hne.out.2.2.2
    exact (Below.heap_setCell _ _ _ _ (by show b ≠ gr;omega)).trans ((Below.heap_setCell _ _ _ _ (by show b ≠ gr;omega)).trans (Below.heap_setCell _ _ _ _ (by show b ≠ go;omega)))
   clear hgo3 hgr3 hS1 hS1r hS2 hS3 BE hown3 hIR hren b3 hnlow
   go_wp2_with fail
   (try simp only [Exit.inBlock,Exit.then]);refine bodyPost_ret (by simp [results,Tryz.results79,go_sem,r0,r1];rfl) rfl ?_
   have hbw : base <= w.heap.size:=HW.out.base_le
   have hbW : base <= W1.heap.size:=Nat.le_trans hbw HB1.out.size
   refine ⟨_,_,_,_,_,_,rfl,fun w'' h1 h2=>?_,(H5.out.trans HBE.out).mono hbw⟩
   obtain ⟨av',cv',hve,hNR⟩:=(HNE.out.kept (fun b hb hb2=>h1 b (Nat.le_trans hbW hb) hb2) h2).row
   cases hve
   rw [H4.out,List.take_of_length_le (Nat.le_refl _)] at hNR
   exact ⟨hNR,HIRE.out.frame h2 (fun ad had=>h1 _ (Nat.le_trans hbw (Nat.le_trans H5.out.size (HKB.out ad had).1)) (by have:=(HKB.out ad had).2;simpa [World.setCell] using this))⟩
end Go.Proofs.YticimejfjjmikaaGreatDoor
