import Derived.Test.YticimejfjjmikaaGreatDoorG14
set_option linter.unusedVariables false
set_option linter.unusedSimpArgs false
set_option maxRecDepth 100000
namespace Go.Proofs.YticimejfjjmikaaGreatDoor
open Go.RowKit
def sameA (a b : Nd) : Prop:=a.kind = b.kind /\ a.num = b.num /\ a.text = b.text
instance (a b : Nd) : Decidable (sameA a b):=by unfold sameA;exact inferInstance
def findA (ns : List Nd) (ord : List Int) (d : Nd) : Option Nat:=ord.findIdx? fun o=>atomB (ns.getD o.toNat default).kind && decide (sameA (ns.getD o.toNat default) d)
def meetS (ns : List Nd) (pl ord : List Int) (old : Nat) : List Int × List Int :=
 if atomB (ns.getD old default).kind = true then
  match findA ns ord (ns.getD old default) with
  | some j=>(pl.set old j,ord)
  | none=>(pl.set old ord.length,ord ++ [(old : Int)])
 else (pl.set old ord.length,ord ++ [(old : Int)])
def AtomsAre (ns : List Nd) (ord : List Int) (D : DataW Unit) : Prop :=
 ∀ (d : Nd) kl,NdOk d -> keyOf Tryz.prog 223 (KVal d.kind d.num d.text) = some kl -> atomB d.kind = true ->
  match findA ns ord d with
  | some j=>Maps.has D kl = true /\ D.atKey kl (.lit (.int .i64 0)) = .lit (.int .i64 (j : Nat))
  | none=>Maps.has D kl = false
structure WCore (base : Nat) (w0 w : World) (B0 gp Bm : Nat) (an : Option Addr) (nn cn : Nat) (ar : Option Addr) (nr cr : Nat) (pl ord : List Int) (vo : Value) : Prop where
 bel : Below base w0 w
 box : w.heap[B0]? = some (.cells #[.slice an nn cn,.slice ar nr cr,.slice (some ⟨gp,0,none⟩) nn nn,vo,.map (some Bm)] 194 (0,0))
 places : Blk w gp pl
 plen : pl.length = nn
 order : w.ownsRow base 3 1 vo ord.length (cz ord)
 bm : Bm < w.heap.size
 b0 : base <= B0
 b1 : base <= gp
 b2 : base <= Bm
 n1 : B0 ≠ gp
 n2 : B0 ≠ Bm
 n3 : gp ≠ Bm
 n4 : vo.ownBlock ≠ some B0
 n5 : vo.ownBlock ≠ some gp
 n6 : vo.ownBlock ≠ some Bm
def MapIs (w : World) (Bm : Nat) (ns : List Nd) (ord : List Int) : Prop:=∃ D,w.ownsMap (H:=Unit) Tryz.prog 223 (plainElem Tryz.prog 3) Bm ord.length D /\ AtomsAre ns ord D
theorem MapIs.frame {w w' : World} {Bm : Nat} {ns : List Nd} {ord : List Int} (h : MapIs w Bm ns ord) (hb : w'.heap[Bm]? = w.heap[Bm]?) : MapIs w' Bm ns ord:=by
 obtain ⟨D,⟨es,clock,h1,h2,h3,h4⟩,h5⟩:=h
 exact ⟨D,⟨es,clock,hb.trans h1,h2,h3,h4⟩,h5⟩
theorem MapIs.lt {w : World} {Bm : Nat} {ns : List Nd} {ord : List Int} (h : MapIs w Bm ns ord) : Bm < w.heap.size:=by
 obtain ⟨D,h1,_⟩:=h;exact h1.lt
theorem owns_frame {w w' : World} {base : Nat} {e : TypeId} {v : Value} {n : Nat} {xs : List Value} (h : w.ownsRow base e 1 v n xs) (hb : ∀ b,v.ownBlock = some b -> w'.heap[b]? = w.heap[b]?) : w'.ownsRow base e 1 v n xs:=by
 refine ⟨h.1,?_⟩
 rcases h.2 with h0 | ⟨g,cap,cur,h1,h2,h3,h4⟩
 ·exact .inl h0
 ·subst h1
  exact .inr ⟨g,cap,cur,rfl,h2,(hb g rfl).trans h3,h4⟩
section
variable {base : Nat} {w0 w : World} {B0 gp Bm : Nat} {an : Option Addr} {nn cn : Nat} {ar : Option Addr} {nr cr : Nat} {pl ord : List Int} {vo : Value}
theorem WCore.lt (h : WCore base w0 w B0 gp Bm an nn cn ar nr cr pl ord vo) : B0 < w.heap.size:=(Array.getElem?_eq_some_iff.1 h.box).1
theorem WCore.base_le (h : WCore base w0 w B0 gp Bm an nn cn ar nr cr pl ord vo) : base <= w.heap.size:=Nat.le_of_lt (Nat.lt_of_le_of_lt h.b0 h.lt)
theorem WCore.own_lt (h : WCore base w0 w B0 gp Bm an nn cn ar nr cr pl ord vo) {b : Nat} (hb : vo.ownBlock = some b) : b < w.heap.size /\ base <= b:=by
 rcases h.order.2 with ⟨rfl,_⟩ | ⟨g,cap,cur,rfl,h2,h3,_⟩
 ·cases hb
 ·cases hb;exact ⟨(Array.getElem?_eq_some_iff.1 h3).1,h2⟩
theorem WCore.frame (h : WCore base w0 w B0 gp Bm an nn cn ar nr cr pl ord vo) {w' : World} (hb : Below base w w') (h0 : w'.heap[B0]? = w.heap[B0]?) (h1 : w'.heap[gp]? = w.heap[gp]?) (h2 : ∀ b,vo.ownBlock = some b -> w'.heap[b]? = w.heap[b]?) : WCore base w0 w' B0 gp Bm an nn cn ar nr cr pl ord vo :=
 ⟨h.bel.trans hb,h0.trans h.box,h1.trans h.places,h.plen,owns_frame h.order h2,Nat.lt_of_lt_of_le h.bm hb.size,h.b0,h.b1,h.b2,h.n1,h.n2,h.n3,h.n4,h.n5,h.n6⟩
theorem WCore.on (h : WCore base w0 w B0 gp Bm an nn cn ar nr cr pl ord vo) {w' : World} (hb : Below w.heap.size w w') : WCore base w0 w' B0 gp Bm an nn cn ar nr cr pl ord vo :=
 h.frame (hb.mono h.base_le) (hb.block _ h.lt) (hb.block _ h.places.lt) (fun b hb'=>hb.block _ (h.own_lt hb').1)
theorem WCore.setPlace (h : WCore base w0 w B0 gp Bm an nn cn ar nr cr pl ord vo) (i : Nat) (z : Int) : WCore base w0 (w.setCell ⟨gp,i,none⟩ (.int .i64 z)) B0 gp Bm an nn cn ar nr cr (pl.set i z) ord vo :=
 ⟨h.bel.setCell (p:=⟨gp,i,none⟩) h.b1 _,(Below.heap_setCell _ _ _ _ h.n1).trans h.box,h.places.set i z,by rw [List.length_set];exact h.plen,owns_frame h.order (fun b hb=>Below.heap_setCell _ _ _ _ (fun e=>h.n5 (by rw [hb];exact congrArg some e))),
  by simpa [World.setCell] using h.bm,h.b0,h.b1,h.b2,h.n1,h.n2,h.n3,h.n4,h.n5,h.n6⟩
theorem WCore.pushed (h : WCore base w0 w B0 gp Bm an nn cn ar nr cr pl ord vo) {w' : World} {g cap : Nat} {x : Int} (ho : w'.ownsRow base 3 1 (.slice (some ⟨g,0,none⟩) (ord.length + 1) cap) (ord.length + 1) (cz (ord ++ [x])))
  (hg : w.grownBy w' vo.ownBlock) (hl : vo.ownBlock = some g \/ g = w.heap.size) : WCore base w0 (w'.setCell ⟨B0,3,none⟩ (.slice (some ⟨g,0,none⟩) (ord.length + 1) cap)) B0 gp Bm an nn cn ar nr cr pl (ord ++ [x]) (.slice (some ⟨g,0,none⟩) (ord.length + 1) cap):=by
 have hgB : g ≠ B0:=by rcases hl with e | e;exact fun e'=>h.n4 (by rw [e,e']);have:=h.lt;omega
 have hgp : g ≠ gp:=by rcases hl with e | e;exact fun e'=>h.n5 (by rw [e,e']);have:=h.places.lt;omega
 have hgm : g ≠ Bm:=by rcases hl with e | e;exact fun e'=>h.n6 (by rw [e,e']);have:=h.bm;omega
 have hB : w'.heap[B0]? = w.heap[B0]?:=hg.block B0 h.lt (fun e=>h.n4 e.symm)
 have hP : w'.heap[gp]? = w.heap[gp]?:=hg.block gp h.places.lt (fun e=>h.n5 e.symm)
 have hbw : Below base w w':=(Below.refl base w).grown hg h.base_le (fun k hk=>(h.own_lt hk).2)
 refine ⟨(h.bel.trans hbw).setCell (p:=⟨B0,3,none⟩) h.b0 _,?_,(Below.heap_setCell _ _ _ _ (fun e=>h.n1 e.symm)).trans (hP.trans h.places),h.plen,?_,?_,h.b0,h.b1,h.b2,h.n1,h.n2,h.n3,?_,?_,?_⟩
 ·have := blk_set (i := 3) (hB.trans h.box) (.slice (some ⟨g, 0, none⟩) (ord.length + 1) cap)
  rw [this];rfl
 ·rw [List.length_append, List.length_singleton]
  exact owns_frame ho (fun b hb=>Below.heap_setCell _ _ _ _ (by cases hb;exact hgB))
 ·have:=hg.size;have:=h.bm;simp [World.setCell];omega
 ·intro e;cases e;exact hgB rfl
 ·intro e;cases e;exact hgp rfl
 ·intro e;cases e;exact hgm rfl
end
structure Tch (w w' : World) (S : Nat -> Prop) : Prop where
 size : w.heap.size <= w'.heap.size
 same : ∀ b,b < w.heap.size -> ¬ S b -> w'.heap[b]? = w.heap[b]?
theorem Tch.trans {w w1 w2 : World} {S : Nat -> Prop} (h1 : Tch w w1 S) (h2 : Tch w1 w2 S) : Tch w w2 S:=⟨Nat.le_trans h1.size h2.size,fun b hb hs=>(h2.same b (Nat.lt_of_lt_of_le hb h1.size) hs).trans (h1.same b hb hs)⟩
theorem Tch.bel {w w1 : World} (S : Nat -> Prop) (h : Below w.heap.size w w1) : Tch w w1 S:=⟨h.size,fun b hb _=>h.block b hb⟩
theorem Tch.set (w : World) {S : Nat -> Prop} {p : Addr} (hp : S p.block) (v : Value) : Tch w (w.setCell p v) S:=⟨by simp [World.setCell],fun b _ hs=>Below.heap_setCell _ _ _ _ (fun e=>hs (by rw [e];exact hp))⟩
theorem Tch.grown {w w1 : World} {S : Nat -> Prop} {row : Option Nat} (h : w.grownBy w1 row) (hr : ∀ b,row = some b -> S b) : Tch w w1 S:=⟨h.size,fun b hb hs=>h.block b hb (fun e=>hs (hr b e.symm))⟩
theorem WCore.grown_box {base : Nat} {w0 w : World} {B0 gp Bm : Nat} {an : Option Addr} {nn cn : Nat} {ar : Option Addr} {nr cr : Nat} {pl ord : List Int} {vo : Value} (h : WCore base w0 w B0 gp Bm an nn cn ar nr cr pl ord vo) {w' : World} (hg : w.grownBy w' vo.ownBlock) : w'.cell? ⟨B0,3,none⟩ = some vo /\ w'.frozen? ⟨B0,3,none⟩ = false:=by
 have hB : w'.heap[B0]? = _:=(hg.block B0 h.lt (fun e=>h.n4 e.symm)).trans h.box
 exact ⟨blk_cell hB 3,blk_free hB 3⟩
theorem findA_snoc (ns : List Nd) (ord : List Int) (o : Int) (d : Nd) : findA ns (ord ++ [o]) d = (findA ns ord d).or (if atomB (ns.getD o.toNat default).kind && decide (sameA (ns.getD o.toNat default) d) then some ord.length else none):=by
 unfold findA
 rw [List.findIdx?_append]
 congr 1
 by_cases h : (atomB (ns.getD o.toNat default).kind && decide (sameA (ns.getD o.toNat default) d)) = true
 ·simp [List.findIdx?_cons,h]
 ·simp [List.findIdx?_cons,h]
theorem atoms_other {ns : List Nd} {ord : List Int} {D : DataW Unit} (h : AtomsAre ns ord D) (old : Nat) (ha : atomB (ns.getD old default).kind = false) : AtomsAre ns (ord ++ [(old : Int)]) D:=by
 intro d kl h1 h2 h3
 rw [findA_snoc]
 have : (atomB (ns.getD (old : Int).toNat default).kind && decide (sameA (ns.getD (old : Int).toNat default) d)) = false:=by
  rw [Int.toNat_natCast,ha];rfl
 rw [this]
 simp only [Bool.false_eq_true,if_false,Option.or_none]
 exact h d kl h1 h2 h3
theorem atoms_put {ns : List Nd} {ord : List Int} {D : DataW Unit} (h : AtomsAre ns ord D) (hm : Maps.IsMap D) (old : Nat) (hok : NdOk (ns.getD old default)) (ha : atomB (ns.getD old default).kind = true) (hf : findA ns ord (ns.getD old default) = none) {kl : Lit}
  (hk : keyOf Tryz.prog 223 (KVal (ns.getD old default).kind (ns.getD old default).num (ns.getD old default).text) = some kl) : AtomsAre ns (ord ++ [(old : Int)]) (D.put kl (.lit (.int .i64 (ord.length : Nat)))):=by
 intro d kl' h1 h2 h3
 rw [findA_snoc,Int.toNat_natCast,ha,Bool.true_and]
 by_cases hs : sameA (ns.getD old default) d
 ·have hd : findA ns ord d = none := by
   have : ∀ x,sameA x (ns.getD old default) ↔ sameA x d:=fun x=>by unfold sameA at *;rw [hs.1,hs.2.1,hs.2.2]
   unfold findA at hf ⊢
   simp only [this] at hf
   exact hf
  have e : kl' = kl:=by
   unfold sameA at hs
   rw [hs.1,hs.2.1,hs.2.2] at hk
   rw [hk] at h2
   exact (Option.some.inj h2).symm
  subst e
  rw [hd]
  simp only [hs,decide_true,if_true,Option.none_or]
  exact ⟨Maps.has_put_same hm (law.key hk) _,Maps.atKey_put_same hm (law.key hk) _ _⟩
 ·have hne : kl' ≠ kl := by
   rintro rfl
   obtain ⟨e1,e2,e3⟩:=key_inj hk h2
   exact hs ⟨e1,e2,e3⟩
  simp only [hs,decide_false,Bool.false_eq_true,if_false,Option.or_none]
  have:=h d kl' h1 h2 h3
  cases hfd : findA ns ord d with
  | none=>rw [hfd] at this;simp only [] at this ⊢;rw [Maps.has_put_other hne];exact this
  | some j=>rw [hfd] at this;simp only [] at this ⊢;rw [Maps.has_put_other hne,Maps.atKey_put_other hne];exact this
theorem appz {P : Program} {w : World} {ops : Array Oper} {rest : List Oper} {o : Oper} {a : Act} {Q : Exit -> Act -> World -> Prop} (hgd : o.guard = none) (s x : Operand) (t : TypeId) (ho : o.op = .call { callee:=.builtin .append,args:=#[s,x],argTypes:=#[t,t] })
  (base : Nat) (e : TypeId) (ht : P.underlying t = some (.slice e)) (hi : (P.info? e).map (fun i=>(i.zero,i.size,i.bytes)) = some (some (.int .i64 0),1,8))
  (v : Value) (n : Nat) (l : List Int) (hs : a.eval s = v) (hown : w.ownsRow base e 1 v n (cz l))
  (ad : Addr) (c : Nat) (d : Int) (hx : a.eval x = .slice (some ad) 1 c) (hd : w.cell? ad = some (.int .i64 d)) (hsm : n <= 1000000) (hbase : base <= w.heap.size)
  (h : ∀ g cap w',w'.ownsRow base e 1 (.slice (some ⟨g,0,none⟩) (n + 1) cap) (n + 1) (cz (l ++ [d])) -> w.grownBy w' v.ownBlock -> (v.ownBlock = some g \/ g = w.heap.size) -> g < w'.heap.size -> wpList P ops Q rest (a.put o.dst (.slice (some ⟨g,0,none⟩) (n + 1) cap)) w') :
  wpList P ops Q (o :: rest) a w:=by
 obtain ⟨i0,hi0,hz0,hz1,hz2⟩:=info_parts hi
 refine wpList_append_lies w hgd s x t ho base e i0 (.int .i64 0) 1 8 ht hi0 hz0 hz1 hz2 rfl (by decide) v n (cz l) hs hown ad 1 c [.int .i64 d] hx rfl ?_ ?_ (by decide) (by unfold maxLen;omega) (by omega) hbase w.heap.size rfl ?_
 ·intro j u hj
  match j,hj with
  | 0,hj=>simp at hj;subst hj;simpa [Addr.add] using hd
 ·intro u hu;simp at hu;subst hu;rfl
 ·intro g cap w' h1 h2 h3 h4
  refine h g cap w' ?_ h2 h3 h4
  rw [cz_append];exact h1
set_option maxHeartbeats 2000000 in
theorem meet_any (base : Nat) (w0 w : World) (B0 gp Bm : Nat) (an : Option Addr) (nn cn : Nat) (ar : Option Addr) (nr cr : Nat) (ns : List Nd) (rs pl ord : List Int) (vo : Value) (old : Nat) (hold : old < nn) (hnn : nn <= 2500) (ho : ord.length <= 2500) (hb : base = w0.heap.size)
  (G : GIs w0 an nn cn ar nr cr ns rs) (W : WCore base w0 w B0 gp Bm an nn cn ar nr cr pl ord vo) (M : MapIs w Bm ns ord) :
  Calls Tryz.prog 135 #[.pointer (some ⟨B0,0,none⟩),.int .i64 old] w fun e w'=>e = .returned (.tuple #[]) /\ ∃ vo',WCore base w0 w' B0 gp Bm an nn cn ar nr cr (meetS ns pl ord old).1 (meetS ns pl ord old).2 vo' /\ MapIs w' Bm ns (meetS ns pl ord old).2 /\ Tch w w' (fun b=>b = B0 \/ b = gp \/ b = Bm \/ vo.ownBlock = some b) /\ (∀ g,vo'.ownBlock = some g -> vo.ownBlock = some g \/ w.heap.size <= g):=by
 have HW:=hid W
 have HG:=hid G
 have hlen : old < ns.length:=by rw [G.nodes.len];exact hold
 have hn1:=G.nodes.fits
 have hn2:=G.nodes.most
 unfold maxLen at hn2
 have hok:=G.nodes.get hold
 obtain ⟨b,o,rfl,hl,hc⟩:=G.nodes.some (by omega)
 have hnd:=(hc old hold).below hl (by rw [<- hb];exact W.bel)
 obtain ⟨k1,k2,k3,ak,nk,ck,k4,k5⟩:=hnd
 have HD : Hid (∀ x,x = ns.getD old default -> meetS ns pl ord old = (if atomB x.kind = true then
  match findA ns ord x with
  | some j=>(pl.set old j,ord)
  | none=>(pl.set old ord.length,ord ++ [(old : Int)])
 else (pl.set old ord.length,ord ++ [(old : Int)]))):=by rintro x rfl;rfl
 have c0 : w.cell? ⟨B0,0,none⟩ = some (.slice (some ⟨b,o,none⟩) nn cn):=blk_cell W.box 0
 have c2 : w.cell? ⟨B0,2,none⟩ = some (.slice (some ⟨gp,0,none⟩) nn nn):=blk_cell W.box 2
 have c3 : w.cell? ⟨B0,3,none⟩ = some vo:=blk_cell W.box 3
 have c4 : w.cell? ⟨B0,4,none⟩ = some (.map (some Bm)):=blk_cell W.box 4
 have hlB : B0 < w.heap.size:=(Array.getElem?_eq_some_iff.1 W.box).1
 have hlg : gp < w.heap.size:=W.places.lt
 obtain ⟨ao,no,co,rfl⟩ : ∃ ao no co,vo = .slice ao no co:=by
  rcases W.order.2 with ⟨h,_⟩ | ⟨g,cap,cur,h,_⟩ <;> exact ⟨_,_,_,h⟩
 have hno : no = ord.length:=by
  rcases W.order.2 with ⟨h,h2⟩ | ⟨g,cap,cur,h,_⟩
  ·cases h;exact h2.symm
  ·cases h;rfl
 have hco : no <= co /\ co <= 9223372036854775807:=by
  rcases W.order.2 with ⟨h,h2⟩ | ⟨g,cap,cur,h,_,_,h3,h4,_⟩
  ·cases h;omega
  ·cases h;unfold maxLen at h4;omega
 obtain ⟨d,hd⟩ : ∃ d,d = ns.getD old default:=⟨_,rfl⟩
 rw [<- hd] at k1 k2 k3 k5 hok
 have HDD:=hid hd
 have HMS:=hid (HD.out d hd)
 obtain ⟨hco1,hco2⟩:=hco
 have HM:=hid M
 have hMl:=M.lt
 subst hno
 clear hc W G HD hd M
 have bA:=Ba w (.cells #[.int .i64 d.kind,.int .i64 d.num,.string d.text,.slice ak nk ck] 54)
 have hnb:=blk_new w #[.int .i64 d.kind,.int .i64 d.num,.string d.text,.slice ak nk ck] 54
 go_enter Tryz.func135,Tryz.ntmps135
 go_wp2_with fail
 have HW1:=hid (HW.out.on bA)
 have HM1:=hid (HM.out.frame (bA.block Bm hMl))
 have HNB:=hid hnb
 have HA:=hid bA
 obtain ⟨gn,hgn⟩ : ∃ gn,gn = w.heap.size:=⟨_,rfl⟩
 rw [<- hgn] at HNB
 rw [<- hgn]
 have hgne : gn ≠ B0 /\ gn ≠ gp /\ gn ≠ Bm:=by refine ⟨?_,?_,?_⟩ <;> omega
 clear hgn
 generalize hW1 : w.alloc (.cells #[.int .i64 d.kind,.int .i64 d.num,.string d.text,.slice ak nk ck] 54) = W1 at *
 clear k1 k2 k3 k4 c0 c2 c3 c4 bA hnb hW1
 refine (atom_any d.kind _).mono ?_
 rintro e wz ⟨rfl,hwz⟩
 rw [hwz]
 clear hwz
 cases hat : atomB d.kind
 ·have c2 : W1.cell? ⟨B0, 2, none⟩ = some (.slice (some ⟨gp, 0, none⟩) nn nn) := blk_cell HW1.out.box 2
  have cp : W1.cell? ⟨gp,old,none⟩ = some (.int .i64 (pl.getD old 0)):=HW1.out.places.cell (by rw [HW1.out.plen];exact hold)
  have fp : W1.frozen? ⟨gp,old,none⟩ = false:=HW1.out.places.free old
  have hsp:=HW1.out.setPlace old (ord.length : Int)
  have c3 : (W1.setCell ⟨gp,old,none⟩ (.int .i64 (ord.length : Int))).cell? ⟨B0,3,none⟩ = some (.slice ao ord.length co):=blk_cell hsp.box 3
  have HSP:=hid hsp
  have HOW : Hid (∀ ob,((W1.setCell ⟨gp,old,none⟩ (.int .i64 (ord.length : Int))).alloc ob).ownsRow base 3 1 (.slice ao ord.length co) ord.length (cz ord)):=fun ob=>(hsp.on (Ba _ ob)).order
  have hbl : Hid (base <= W1.heap.size):=HW1.out.base_le
  clear hsp
  have ems : Hid (meetS ns pl ord old = (pl.set old ord.length,ord ++ [(old : Int)])):=by unfold Hid;rw [HMS.out,hat];rfl
  have HSA : Hid (∀ ob,WCore base w0 ((W1.setCell ⟨gp,old,none⟩ (.int .i64 (ord.length : Int))).alloc ob) B0 gp Bm (some ⟨b,o,none⟩) nn cn ar nr cr (pl.set old (ord.length : Int)) ord (.slice ao ord.length co)):=fun ob=>HSP.out.on (Ba _ ob)
  go_wp2_with (at_builtin;refine appz rfl _ _ 32 rfl base 3 Tryz.underlying32 info_int _ _ ord rfl (HOW.out _) ⟨W1.heap.size,0,none⟩ 1 (old : Int) rfl ?c0 (by omega) (by have:=hbl.out;simp [World.setCell];omega) ?_;rotate_right;intro g cap w4 hown hgrow hloc hglt;obtain ⟨q1,q2⟩:=(HSA.out _).grown_box hgrow)
  case c0 =>
   have:=cell_new (W1.setCell ⟨gp,old,none⟩ (.int .i64 (ord.length : Int))) (.int .i64 (old : Int)) 3
   rw [show (W1.setCell ⟨gp,old,none⟩ (.int .i64 (ord.length : Int))).heap.size = W1.heap.size by simp [World.setCell]] at this
   exact this
  go_end0
  have hfin:=(HSA.out _).pushed hown hgrow hloc
  refine ⟨rfl,_,by rw [ems.out];exact hfin,?_,?_,?_⟩
  ·rw [ems.out]
   obtain ⟨D,hD1,hD2⟩:=HM1.out
   refine MapIs.frame (w:=W1) ⟨D,hD1.mono (by simp),atoms_other hD2 old (by rw [<- HDD.out];exact hat)⟩ ?_
   have hmB:=HW1.out.n2
   have hmg:=HW1.out.n3
   have hml : Bm < (W1.setCell ⟨gp,old,none⟩ (.int .i64 (ord.length : Int))).heap.size:=by simpa [World.setCell] using HM1.out.lt
   refine (Below.heap_setCell _ _ _ _ (fun e=>hmB e.symm)).trans ((hgrow.block Bm (Nat.lt_of_lt_of_le hml (Ba _ _).size) (fun e=>HW1.out.n6 e.symm)).trans (((Ba _ _).block Bm hml).trans (Below.heap_setCell _ _ _ _ (fun e=>hmg e.symm))))
  ·exact (Tch.bel _ HA.out).trans ((Tch.set _ (.inr (.inl rfl)) _).trans ((Tch.bel _ (Ba _ _)).trans ((Tch.grown hgrow (fun b hb=>.inr (.inr (.inr hb)))).trans (Tch.set _ (.inl rfl) _))))
  ·intro g' hg'
   have hgg : g' = g:=by simp [Value.ownBlock] at hg';exact hg'.symm
   subst hgg
   rcases hloc with h | h
   ·exact .inl h
   ·refine .inr ?_
    have h1:=HA.out.size
    have h2 : (W1.setCell ⟨gp,old,none⟩ (.int .i64 (ord.length : Int))).heap.size = W1.heap.size:=by simp [World.setCell]
    rw [size_alloc,h2] at h
    omega
 ·obtain ⟨D, hD1, hD2⟩ := HM1.out
  obtain ⟨kl,hkl⟩:=key_of d.kind d.num d.text hok.1 hok.2.1 hok.2.2
  have hAt:=hD2 d kl hok hkl hat
  cases hf : findA ns ord d with
  | some j =>
   rw [hf] at hAt
   simp only [] at hAt
   obtain ⟨hh,hv⟩:=hAt
   have ems : Hid (meetS ns pl ord old = (pl.set old j,ord)):=by unfold Hid;rw [HMS.out,hat,hf];rfl
   have n0 : W1.cell? ⟨gn,0,none⟩ = some (.int .i64 d.kind):=blk_cell HNB.out 0
   have n1 : W1.cell? ⟨gn,1,none⟩ = some (.int .i64 d.num):=blk_cell HNB.out 1
   have n2 : W1.cell? ⟨gn,2,none⟩ = some (.string d.text):=blk_cell HNB.out 2
   have hgnl : gn < W1.heap.size:=(Array.getElem?_eq_some_iff.1 HNB.out).1
   have HOWN : Hid (∀ ob,(W1.alloc ob).ownsMap (H:=Unit) Tryz.prog 223 (plainElem Tryz.prog 3) Bm ord.length D):=fun ob=>hD1.alloc ob
   have hkl2:=hkl
   unfold KVal at hkl2
   have HKL:=hid hkl2
   have HH:=hid hh
   have HV:=hid hv
   have m4 : ∀ ob,(W1.alloc ob).cell? ⟨B0,4,none⟩ = some (.map (some Bm)):=fun ob=>(cell_old _ _ _ _ HW1.out.lt).trans (blk_cell HW1.out.box 4)
   have m2 : ∀ ob,(W1.alloc ob).cell? ⟨B0,2,none⟩ = some (.slice (some ⟨gp,0,none⟩) nn nn):=fun ob=>(cell_old _ _ _ _ HW1.out.lt).trans (blk_cell HW1.out.box 2)
   have mp : ∀ ob,(W1.alloc ob).cell? ⟨gp,old,none⟩ = some (.int .i64 (pl.getD old 0)):=fun ob=>(cell_old _ _ _ _ HW1.out.places.lt).trans (HW1.out.places.cell (by rw [HW1.out.plen];exact hold))
   have mf : ∀ ob,(W1.alloc ob).frozen? ⟨gp,old,none⟩ = false:=fun ob=>(HW1.out.on (Ba W1 ob)).places.free old
   clear hD1 hD2 hh hv hkl hkl2
   have hrunA : ∀ ob q,(Instr.lookup 192 (.map (some Bm)) (.agg #[.int .i64 d.kind,.int .i64 d.num,.string d.text]) true).run Tryz.prog ((W1.alloc ob).drewN q) = .ok (.tuple #[.int .i64 (j : Nat),.bool true]) ((W1.alloc ob).drewN q):=fun ob q=>by
    have ho2 : ((W1.alloc ob).drewN q).ownsMap (H:=Unit) Tryz.prog 223 (plainElem Tryz.prog 3) Bm ord.length D:=HOWN.out ob
    obtain ⟨v,ps,h1,h2⟩:=ho2.look_ok law Tryz.underlying192 (zeroInt64 _) (plainElem_int Tryz.underlying3 (by decide)) HKL.out
    obtain ⟨c,rfl,hc,_⟩:=plainElem_int_inv Tryz.underlying3 h2
    have hcj : c = (j : Nat):=by
     have:=congrArg Prod.fst hc
     simp only [] at this
     rw [HV.out] at this
     injection this with this
     injection this with _ this
     exact this.symm
    rw [h1,HH.out,hcj]
   have hrun1 : ∀ ob,(Instr.lookup 192 (.map (some Bm)) (.agg #[.int .i64 d.kind,.int .i64 d.num,.string d.text]) true).run Tryz.prog (W1.alloc ob) = .ok (.tuple #[.int .i64 (j : Nat),.bool true]) (W1.alloc ob):=fun ob=>hrunA ob 0
   go_wp2_with fail
   go_quiet (fail)
   go_wp2_with fail
   refine bodyPost_ret (v:=.tuple #[]) (by simp [results,Tryz.results135,go_sem]) rfl ?_
   have hk1:=Ba W1 (.cells #[.int .i64 d.kind,.int .i64 d.num,.string d.text] 223)
   have hk2:=Bt hk1 (Bd _ nq)
   have hfin:=(HW1.out.on hk2).setPlace old (j : Int)
   refine ⟨rfl,_,by rw [ems.out];exact hfin,?_,?_,fun g hg=>.inl hg⟩
   ·rw [ems.out]
    exact HM1.out.frame ((Below.heap_setCell _ _ _ _ (fun e=>HW1.out.n3 e.symm)).trans (hk2.block Bm HM1.out.lt))
   ·exact (Tch.bel _ HA.out).trans ((Tch.bel _ hk2).trans (Tch.set _ (.inr (.inl rfl)) _))
  | none =>
   rw [hf] at hAt
   simp only [] at hAt
   have hh:=hAt
   have ems : Hid (meetS ns pl ord old = (pl.set old ord.length,ord ++ [(old : Int)])):=by unfold Hid;rw [HMS.out,hat,hf];rfl
   have hDm : Maps.IsMap D:=by obtain ⟨es,clock,_,_,_,h⟩:=hD1;exact ⟨_,h⟩
   have HPUT:=hid (atoms_put hD2 hDm old (by rw [<- HDD.out];exact hok) (by rw [<- HDD.out];exact hat) (by rw [<- HDD.out];exact hf) (kl:=kl) (by rw [<- HDD.out];exact hkl))
   have n0 : W1.cell? ⟨gn,0,none⟩ = some (.int .i64 d.kind):=blk_cell HNB.out 0
   have n1 : W1.cell? ⟨gn,1,none⟩ = some (.int .i64 d.num):=blk_cell HNB.out 1
   have n2 : W1.cell? ⟨gn,2,none⟩ = some (.string d.text):=blk_cell HNB.out 2
   have hgnl : gn < W1.heap.size:=(Array.getElem?_eq_some_iff.1 HNB.out).1
   have HOWN : Hid (∀ ob,(W1.alloc ob).ownsMap (H:=Unit) Tryz.prog 223 (plainElem Tryz.prog 3) Bm ord.length D):=fun ob=>hD1.alloc ob
   have hkl2:=hkl
   unfold KVal at hkl2
   have HKL:=hid hkl2
   have HH:=hid hh
   have m4 : ∀ ob,(W1.alloc ob).cell? ⟨B0,4,none⟩ = some (.map (some Bm)):=fun ob=>(cell_old _ _ _ _ HW1.out.lt).trans (blk_cell HW1.out.box 4)
   clear hD1 hD2 hh hkl hkl2 hAt hDm
   have hrunA : ∀ ob q,(Instr.lookup 192 (.map (some Bm)) (.agg #[.int .i64 d.kind,.int .i64 d.num,.string d.text]) true).run Tryz.prog ((W1.alloc ob).drewN q) = .ok (.tuple #[.int .i64 0,.bool false]) ((W1.alloc ob).drewN q):=fun ob q=>by
    have ho2 : ((W1.alloc ob).drewN q).ownsMap (H:=Unit) Tryz.prog 223 (plainElem Tryz.prog 3) Bm ord.length D:=HOWN.out ob
    obtain ⟨v,ps,h1,h2⟩:=ho2.look_ok law Tryz.underlying192 (zeroInt64 _) (plainElem_int Tryz.underlying3 (by decide)) HKL.out
    obtain ⟨c,rfl,hc,_⟩:=plainElem_int_inv Tryz.underlying3 h2
    have hcj : c = 0:=by
     have:=congrArg Prod.fst hc
     simp only [] at this
     rw [Maps.atKey_of_not_has HH.out] at this
     injection this with this
     injection this with _ this
     exact this.symm
    rw [h1,HH.out,hcj]
   have hrun1 : ∀ ob,(Instr.lookup 192 (.map (some Bm)) (.agg #[.int .i64 d.kind,.int .i64 d.num,.string d.text]) true).run Tryz.prog (W1.alloc ob) = .ok (.tuple #[.int .i64 0,.bool false]) (W1.alloc ob):=fun ob=>hrunA ob 0
   go_wp2_with fail
   go_quiet (fail)
   clear hrunA hrun1
   have hk1:=Ba W1 (.cells #[.int .i64 d.kind,.int .i64 d.num,.string d.text] 223)
   have hk2:=Bt hk1 (Bd _ nq)
   have hkb:=blk_new W1 #[.int .i64 d.kind,.int .i64 d.num,.string d.text] 223
   have HO2:=hid (HOWN.out (.cells #[.int .i64 d.kind,.int .i64 d.num,.string d.text] 223))
   obtain ⟨gk,hgk⟩ : ∃ gk,gk = W1.heap.size:=⟨_,rfl⟩
   rw [<- hgk] at hkb
   rw [<- hgk]
   have hgl : W1.heap.size <= gk:=by omega
   clear hgk m4
   generalize hW2 : (W1.alloc (.cells #[.int .i64 d.kind,.int .i64 d.num,.string d.text] 223)).drewN nq = W2 at *
   have hkb2 : W2.heap[gk]? = some (.cells #[.int .i64 d.kind,.int .i64 d.num,.string d.text] 223 (0,0)):=by rw [<- hW2];exact hkb
   have HO3 : Hid (W2.ownsMap (H:=Unit) Tryz.prog 223 (plainElem Tryz.prog 3) Bm ord.length D):=by rw [<- hW2];exact HO2.out
   have HW2:=hid (HW1.out.on hk2)
   have HA2:=hid hk2
   have q0 : W2.cell? ⟨gk,0,none⟩ = some (.int .i64 d.kind):=blk_cell hkb2 0
   have q1 : W2.cell? ⟨gk,1,none⟩ = some (.int .i64 d.num):=blk_cell hkb2 1
   have q2 : W2.cell? ⟨gk,2,none⟩ = some (.string d.text):=blk_cell hkb2 2
   have q4 : W2.cell? ⟨B0,4,none⟩ = some (.map (some Bm)):=blk_cell HW2.out.box 4
   clear hk1 hk2 hkb hW2 hkb2 HOWN HO2 n0 n1 n2
   have HO4 : W2.drew.ownsMap (H:=Unit) Tryz.prog 223 (plainElem Tryz.prog 3) Bm ord.length D:=HO3.out
   obtain ⟨w3,hrunU,hown3,hgrow3⟩:=HO4.update law Tryz.underlying192 (by unfold maxLen;omega) HKL.out (plainElem_int Tryz.underlying3 (a:=(ord.length : Int)) (WalkArith.wf_i64 (by omega)))
   go_wp2_with fail
   go_region
   have hw2:=HW2.out.on (Bd W2 1)
   have hg3 : W2.drew.grownBy w3 (some Bm):=hgrow3
   have hbl3 : Below base W2.drew w3:=(Below.refl base W2.drew).grown hg3 hw2.base_le (fun k hk=>by cases hk;exact hw2.b2)
   have hw3:=hw2.frame hbl3 (hg3.block B0 hw2.lt (fun e=>hw2.n2 (Option.some.inj e))) (hg3.block gp hw2.places.lt (fun e=>hw2.n3 (Option.some.inj e))) (fun b hb=>hg3.block b (hw2.own_lt hb).1 (fun e=>hw2.n6 (by rw [hb,e])))
   have HW3:=hid hw3
   have HO3':=hid hown3
   have HT3 : Hid (Tch w w3 (fun b=>b = B0 \/ b = gp \/ b = Bm \/ (Value.slice ao ord.length co).ownBlock = some b)):=(Tch.bel _ HA.out).trans ((Tch.bel _ HA2.out).trans ((Tch.bel _ (Bd W2 1)).trans (Tch.grown hg3 (fun b hb=>.inr (.inr (.inl (Option.some.inj hb.symm)))))))
   clear hw2 hg3 hbl3 hw3 hown3 hgrow3 hrunU HO4 q0 q1 q2 q4
   have c2 : w3.cell? ⟨B0,2,none⟩ = some (.slice (some ⟨gp,0,none⟩) nn nn):=blk_cell HW3.out.box 2
   have cp : w3.cell? ⟨gp,old,none⟩ = some (.int .i64 (pl.getD old 0)):=HW3.out.places.cell (by rw [HW3.out.plen];exact hold)
   have fp : w3.frozen? ⟨gp,old,none⟩ = false:=HW3.out.places.free old
   have HSP:=hid (HW3.out.setPlace old (ord.length : Int))
   have c3 : (w3.setCell ⟨gp,old,none⟩ (.int .i64 (ord.length : Int))).cell? ⟨B0,3,none⟩ = some (.slice ao ord.length co):=blk_cell HSP.out.box 3
   have HOW : Hid (∀ ob,((w3.setCell ⟨gp,old,none⟩ (.int .i64 (ord.length : Int))).alloc ob).ownsRow base 3 1 (.slice ao ord.length co) ord.length (cz ord)):=fun ob=>(HSP.out.on (Ba _ ob)).order
   have hbl : Hid (base <= w3.heap.size):=HW3.out.base_le
   have HSA : Hid (∀ ob,WCore base w0 ((w3.setCell ⟨gp,old,none⟩ (.int .i64 (ord.length : Int))).alloc ob) B0 gp Bm (some ⟨b,o,none⟩) nn cn ar nr cr (pl.set old (ord.length : Int)) ord (.slice ao ord.length co)):=fun ob=>HSP.out.on (Ba _ ob)
   go_wp2_with (at_builtin;refine appz rfl _ _ 32 rfl base 3 Tryz.underlying32 info_int _ _ ord rfl (HOW.out _) ⟨w3.heap.size,0,none⟩ 1 (old : Int) rfl ?c0 (by omega) (by have:=hbl.out;simp [World.setCell];omega) ?_;rotate_right;intro g cap w4 hown hgrow hloc hglt;obtain ⟨q1,q2⟩:=(HSA.out _).grown_box hgrow)
   case c0 =>
    have:=cell_new (w3.setCell ⟨gp,old,none⟩ (.int .i64 (ord.length : Int))) (.int .i64 (old : Int)) 3
    rw [show (w3.setCell ⟨gp,old,none⟩ (.int .i64 (ord.length : Int))).heap.size = w3.heap.size by simp [World.setCell]] at this
    exact this
   go_end0
   have hfin:=(HSA.out _).pushed hown hgrow hloc
   have h2 : (w3.setCell ⟨gp,old,none⟩ (.int .i64 (ord.length : Int))).heap.size = w3.heap.size:=by simp [World.setCell]
   refine ⟨rfl,_,by rw [ems.out];exact hfin,?_,?_,?_⟩
   ·rw [ems.out]
    have hmB:=HW3.out.n2
    have hmg:=HW3.out.n3
    have hml : Bm < (w3.setCell ⟨gp,old,none⟩ (.int .i64 (ord.length : Int))).heap.size:=by rw [h2];exact HO3'.out.lt
    refine MapIs.frame (w:=w3) ⟨_,by rw [List.length_append,List.length_singleton];exact HO3'.out,HPUT.out⟩ ?_
    exact (Below.heap_setCell _ _ _ _ (fun e=>hmB e.symm)).trans ((hgrow.block Bm (Nat.lt_of_lt_of_le hml (Ba _ _).size) (fun e=>HW3.out.n6 e.symm)).trans (((Ba _ _).block Bm hml).trans (Below.heap_setCell _ _ _ _ (fun e=>hmg e.symm))))
   ·exact HT3.out.trans ((Tch.set _ (.inr (.inl rfl)) _).trans ((Tch.bel _ (Ba _ _)).trans ((Tch.grown hgrow (fun b hb=>.inr (.inr (.inr hb)))).trans (Tch.set _ (.inl rfl) _))))
   ·intro g' hg'
    have hgg : g' = g:=by simp [Value.ownBlock] at hg';exact hg'.symm
    subst hgg
    rcases hloc with h | h
    ·exact .inl h
    ·refine .inr ?_
     have h1:=HT3.out.size
     rw [size_alloc,h2] at h
     omega
def followS (ns : List Nd) : Nat -> List Int -> List Int -> List Int -> List Int × List Int
 | 0,_,pl,ord=>(pl,ord)
 | _ + 1,[],pl,ord=>(pl,ord)
 | f + 1,o :: st,pl,ord=>if pl.getD o.toNat 0 ≠ -1 then followS ns f st pl ord else followS ns f ((ns.getD o.toNat default).kids ++ st) (meetS ns pl ord o.toNat).1 (meetS ns pl ord o.toNat).2
def um : List Nd -> List Int -> Nat
 | d :: ns,p :: pl=>(if p = -1 then d.kids.length else 0) + um ns pl
 | _,_=>0
theorem um_set : ∀ {ns : List Nd} {pl : List Int} {i : Nat} {z : Int},i < ns.length -> i < pl.length -> pl.getD i 0 = -1 -> z ≠ -1 -> um ns (pl.set i z) + (ns.getD i default).kids.length = um ns pl
 | [],_,_,_,h,_,_,_=>by simp at h
 | _ :: _,[],_,_,_,h,_,_=>by simp at h
 | d :: ns,p :: pl,0,z,_,_,h,hz=>by
  simp at h
  simp [um,h,hz];omega
 | d :: ns,p :: pl,i + 1,z,h1,h2,h,hz=>by
  have ih:=um_set (ns:=ns) (pl:=pl) (i:=i) (z:=z) (by simpa using h1) (by simpa using h2) (by simpa using h) hz
  simp only [List.set_cons_succ,um,List.getD_cons_succ]
  omega
theorem um_le : ∀ {ns : List Nd} {pl : List Int},(∀ d∈ns,d.kids.length <= 100) -> um ns pl <= 100 * ns.length
 | [],_,_=>by simp [um]
 | _ :: _,[],_=>by simp [um]
 | d :: ns,p :: pl,h=>by
  have ih:=um_le (ns:=ns) (pl:=pl) (fun x hx=>h x (by simp [hx]))
  have:=h d (by simp)
  simp only [um,List.length_cons]
  split <;> omega
theorem count_set {l : List Int} {i : Nat} {z : Int} (hi : i < l.length) (h : l.getD i 0 = -1) (hz : z ≠ -1) : (l.set i z).count (-1) + 1 = l.count (-1):=by
 induction l generalizing i with
 | nil=>simp at hi
 | cons a l ih =>
  cases i with
  | zero =>
   simp at h
   subst h
   simp [List.count_cons,hz]
  | succ i =>
   have:=ih (i:=i) (by simpa using hi) (by simpa using h)
   simp only [List.set_cons_succ,List.count_cons]
   omega
structure Fv (ns : List Nd) (nn : Nat) (st pl ord : List Int) (f : Nat) : Prop where
 plen : pl.length = nn
 nlen : ns.length = nn
 kids : ∀ d∈ns,placesB d.kids nn = true
 rng : ∀ z∈st,0 <= z /\ z < nn
 fu : st.length + um ns pl <= f
 cnt : ord.length + pl.count (-1) <= nn
theorem meetS_facts (ns : List Nd) (pl ord : List Int) (old : Nat) : ∃ z : Int,z ≠ -1 /\ 0 <= z /\ (meetS ns pl ord old).1 = pl.set old z /\ (meetS ns pl ord old).2.length <= ord.length + 1:=by
 unfold meetS
 split
 ·split
  ·exact ⟨_,by omega,by omega,rfl,by simp⟩
  ·exact ⟨_,by omega,by omega,rfl,by simp⟩
 ·exact ⟨_,by omega,by omega,rfl,by simp⟩
theorem Fv.skip {ns : List Nd} {nn : Nat} {o : Int} {st pl ord : List Int} {f : Nat} (h : Fv ns nn (o :: st) pl ord (f + 1)) : Fv ns nn st pl ord f :=
 ⟨h.plen,h.nlen,h.kids,fun z hz=>h.rng z (by simp [hz]),by have:=h.fu;simp at this;omega,h.cnt⟩
theorem places_rng {l : List Int} {n : Nat} (h : placesB l n = true) : ∀ z∈l,0 <= z /\ z < n:=by
 intro z hz
 have:=List.all_eq_true.1 h z hz
 unfold placeB at this
 simpa using this
theorem getD_mem_nd {ns : List Nd} {i : Nat} (h : i < ns.length) : ns.getD i default∈ns:=by
 rw [List.getD_eq_getElem?_getD,List.getElem?_eq_getElem h];exact List.getElem_mem h
theorem Fv.meet {ns : List Nd} {nn : Nat} {o : Int} {st pl ord : List Int} {f : Nat} (h : Fv ns nn (o :: st) pl ord (f + 1)) (hp : pl.getD o.toNat 0 = -1) :
  Fv ns nn ((ns.getD o.toNat default).kids ++ st) (meetS ns pl ord o.toNat).1 (meetS ns pl ord o.toNat).2 f:=by
 obtain ⟨h0,h1⟩:=h.rng o (by simp)
 have hi : o.toNat < nn:=by omega
 obtain ⟨z,hz1,hz2,hz3,hz4⟩:=meetS_facts ns pl ord o.toNat
 rw [hz3]
 refine ⟨by rw [List.length_set];exact h.plen,h.nlen,h.kids,?_,?_,?_⟩
 ·intro y hy
  rcases List.mem_append.1 hy with hy | hy
  ·exact places_rng (h.kids _ (getD_mem_nd (by rw [h.nlen];exact hi))) y hy
  ·exact h.rng y (by simp [hy])
 ·have := um_set (ns := ns) (pl := pl) (i := o.toNat) (z := z) (by rw [h.nlen]; exact hi) (by rw [h.plen]; exact hi) hp hz1
  have h2:=h.fu
  simp at h2
  rw [List.length_append];omega
 ·have := count_set (l := pl) (i := o.toNat) (z := z) (by rw [h.plen]; exact hi) hp hz1
  have h2:=h.cnt
  omega
theorem Fv.room {ns : List Nd} {nn : Nat} {o : Int} {st pl ord : List Int} {f : Nat} (h : Fv ns nn (o :: st) pl ord f) (hp : pl.getD o.toNat 0 = -1) : ord.length < nn:=by
 obtain ⟨h0,h1⟩:=h.rng o (by simp)
 have hi : o.toNat < pl.length:=by rw [h.plen];omega
 have : 0 < pl.count (-1):=List.count_pos_iff.2 (by rw [<- hp,List.getD_eq_getElem?_getD,List.getElem?_eq_getElem hi];exact List.getElem_mem hi)
 have:=h.cnt
 omega
theorem Fv.end_ {ns : List Nd} {nn : Nat} : ∀ {f : Nat} {st pl ord : List Int},Fv ns nn st pl ord f -> Fv ns nn [] (followS ns f st pl ord).1 (followS ns f st pl ord).2 (um ns (followS ns f st pl ord).1)
 | 0,st,pl,ord,h=>by
  refine ⟨h.plen,h.nlen,h.kids,fun z hz=>(by cases hz),by simp [followS],h.cnt⟩
 | f + 1,[],pl,ord,h=>⟨h.plen,h.nlen,h.kids,fun z hz=>(by cases hz),by simp [followS],h.cnt⟩
 | f + 1,o :: st,pl,ord,h=>by
  unfold followS
  by_cases hp : pl.getD o.toNat 0 = -1
  ·rw [if_neg (fun hq=>hq hp)];exact (h.meet hp).end_
  ·rw [if_pos hp];exact h.skip.end_
end Go.Proofs.YticimejfjjmikaaGreatDoor
