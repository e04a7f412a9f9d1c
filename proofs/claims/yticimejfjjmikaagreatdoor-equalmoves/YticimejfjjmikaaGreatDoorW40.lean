import Derived.Test.YticimejfjjmikaaGreatDoorW43
import Derived.Test.YticimejfjjmikaaGreatDoorW1
import Derived.Test.YticimejfjjmikaaGreatDoorW13
import Derived.Test.YticimejfjjmikaaGreatDoorW7
import Derived.Laws.Bits128
set_option linter.unusedVariables false
set_option linter.unusedSimpArgs false
namespace Go.Proofs.YticimejfjjmikaaGreatDoor
open Go.RowKit
structure Nd where
 kind : Int
 num : Int
 text : ByteArray
 kids : List Int
instance : Inhabited Nd:=⟨⟨0,0,ByteArray.empty,[]⟩⟩
def I64 (z : Int) : Prop:=-9223372036854775808 <= z /\ z <= 9223372036854775807
structure IRow (w : World) (ao : Option Addr) (n cap : Nat) (l : List Int) : Prop where
 len : l.length = n
 fits : n <= cap
 most : cap <= maxLen
 nil_ : ao = none -> cap = 0
 bd : ∀ z∈l,I64 z
 rd : l = [] \/ ∃ b o,ao = some ⟨b,o,none⟩ /\ b < w.heap.size /\ ∀ i,i < l.length -> w.cell? ⟨b,o + i,none⟩ = some (.int .i64 (l.getD i 0))
theorem IRow.some {w : World} {ao : Option Addr} {n cap : Nat} {l : List Int} (h : IRow w ao n cap l) (hl : 0 < n) :
  ∃ b o,ao = some ⟨b,o,none⟩ /\ b < w.heap.size /\ ∀ i,i < n -> w.cell? ⟨b,o + i,none⟩ = some (.int .i64 (l.getD i 0)):=by
 rcases h.rd with e | h2
 ·have:=h.len;simp [e] at this;omega
 ·rw [h.len] at h2;exact h2
theorem IRow.below {w w' : World} {ao : Option Addr} {n cap : Nat} {l : List Int} (h : IRow w ao n cap l) (hb : Below w.heap.size w w') : IRow w' ao n cap l:=by
 refine ⟨h.len,h.fits,h.most,h.nil_,h.bd,?_⟩
 rcases h.rd with e | ⟨b,o,e,hl,hc⟩
 ·exact .inl e
 ·exact .inr ⟨b,o,e,Nat.lt_of_lt_of_le hl hb.size,fun i hi=>(hb.cell (p:=⟨b,o + i,none⟩) hl).trans (hc i hi)⟩
theorem IRow.nil (w : World) (ao : Option Addr) : IRow w ao 0 0 []:=⟨rfl,Nat.le_refl _,Nat.zero_le _,fun _=>rfl,fun _ h=>(by cases h),.inl rfl⟩
theorem IRow.get {w : World} {ao : Option Addr} {n cap : Nat} {l : List Int} (h : IRow w ao n cap l) {i : Nat} (hi : i < n) : I64 (l.getD i 0):=by
 have hi' : i < l.length:=by rw [h.len];exact hi
 rw [List.getD_eq_getElem?_getD,List.getElem?_eq_getElem hi']
 exact h.bd _ (List.getElem_mem hi')
def NdAt (w : World) (b o : Nat) (d : Nd) : Prop :=
 w.cell? ⟨b,o,none⟩ = some (.int .i64 d.kind) /\ w.cell? ⟨b,o + 1,none⟩ = some (.int .i64 d.num) /\ w.cell? ⟨b,o + 2,none⟩ = some (.string d.text) /\
  ∃ ao n cap,w.cell? ⟨b,o + 3,none⟩ = some (.slice ao n cap) /\ IRow w ao n cap d.kids
theorem NdAt.below {w w' : World} {b o : Nat} {d : Nd} (h : NdAt w b o d) (hl : b < w.heap.size) (hb : Below w.heap.size w w') : NdAt w' b o d:=by
 obtain ⟨h1,h2,h3,ao,n,cap,h4,h5⟩:=h
 exact ⟨(hb.cell (p:=⟨b,o,none⟩) hl).trans h1,(hb.cell (p:=⟨b,o + 1,none⟩) hl).trans h2,(hb.cell (p:=⟨b,o + 2,none⟩) hl).trans h3,ao,n,cap,(hb.cell (p:=⟨b,o + 3,none⟩) hl).trans h4,h5.below hb⟩
def NdOk (d : Nd) : Prop:=I64 d.kind /\ I64 d.num /\ d.text.size <= maxLen
structure NRow (w : World) (ao : Option Addr) (n cap : Nat) (l : List Nd) : Prop where
 len : l.length = n
 fits : n <= cap
 most : cap <= maxLen
 nil_ : ao = none -> cap = 0
 ok : ∀ d∈l,NdOk d
 rd : l = [] \/ ∃ b o,ao = some ⟨b,o,none⟩ /\ b < w.heap.size /\ ∀ i,i < l.length -> NdAt w b (o + i * 4) (l.getD i default)
theorem NRow.some {w : World} {ao : Option Addr} {n cap : Nat} {l : List Nd} (h : NRow w ao n cap l) (hl : 0 < n) :
  ∃ b o,ao = some ⟨b,o,none⟩ /\ b < w.heap.size /\ ∀ i,i < n -> NdAt w b (o + i * 4) (l.getD i default):=by
 rcases h.rd with e | h2
 ·have:=h.len;simp [e] at this;omega
 ·rw [h.len] at h2;exact h2
theorem NRow.below {w w' : World} {ao : Option Addr} {n cap : Nat} {l : List Nd} (h : NRow w ao n cap l) (hb : Below w.heap.size w w') : NRow w' ao n cap l:=by
 refine ⟨h.len,h.fits,h.most,h.nil_,h.ok,?_⟩
 rcases h.rd with e | ⟨b,o,e,hl,hc⟩
 ·exact .inl e
 ·exact .inr ⟨b,o,e,Nat.lt_of_lt_of_le hl hb.size,fun i hi=>(hc i hi).below hl hb⟩
theorem NRow.get {w : World} {ao : Option Addr} {n cap : Nat} {l : List Nd} (h : NRow w ao n cap l) {i : Nat} (hi : i < n) : NdOk (l.getD i default):=by
 have hi' : i < l.length:=by rw [h.len];exact hi
 rw [List.getD_eq_getElem?_getD,List.getElem?_eq_getElem hi']
 exact h.ok _ (List.getElem_mem hi')
theorem NRow.nil (w : World) (ao : Option Addr) : NRow w ao 0 0 []:=⟨rfl,Nat.le_refl _,Nat.zero_le _,fun _=>rfl,fun _ h=>(by cases h),.inl rfl⟩
def GVal (an : Option Addr) (nn cn : Nat) (ar : Option Addr) (nr cr : Nat) : Value:=.agg #[.slice an nn cn,.slice ar nr cr]
structure GIs (w : World) (an : Option Addr) (nn cn : Nat) (ar : Option Addr) (nr cr : Nat) (ns : List Nd) (rs : List Int) : Prop where
 nodes : NRow w an nn cn ns
 roots : IRow w ar nr cr rs
theorem GIs.below {w w' : World} {an ar : Option Addr} {nn cn nr cr : Nat} {ns : List Nd} {rs : List Int} (h : GIs w an nn cn ar nr cr ns rs) (hb : Below w.heap.size w w') : GIs w' an nn cn ar nr cr ns rs:=⟨h.nodes.below hb,h.roots.below hb⟩
def GBox (t : TypeId) (w : World) (p : Nat) (an : Option Addr) (nn cn : Nat) (ar : Option Addr) (nr cr : Nat) : Prop:=w.heap[p]? = some (.cells #[.slice an nn cn,.slice ar nr cr] t (0,0))
theorem GBox.lt {t : TypeId} {w : World} {p : Nat} {an ar : Option Addr} {nn cn nr cr : Nat} (h : GBox t w p an nn cn ar nr cr) : p < w.heap.size:=(Array.getElem?_eq_some_iff.1 h).1
theorem GBox.on {t : TypeId} {w w' : World} {p : Nat} {an ar : Option Addr} {nn cn nr cr : Nat} (h : GBox t w p an nn cn ar nr cr) (hb : Below w.heap.size w w') : GBox t w' p an nn cn ar nr cr:=(hb.block p h.lt).trans h
theorem GBox.c {t : TypeId} {w : World} {p : Nat} {an ar : Option Addr} {nn cn nr cr : Nat} (h : GBox t w p an nn cn ar nr cr) : w.cell? ⟨p,0,none⟩ = some (.slice an nn cn) /\ w.cell? ⟨p,1,none⟩ = some (.slice ar nr cr):=⟨za h 0,za h 1⟩
theorem GBox.new (t : TypeId) (w : World) (an ar : Option Addr) (nn cn nr cr : Nat) : GBox t (w.alloc (.cells #[.slice an nn cn,.slice ar nr cr] t)) w.heap.size an nn cn ar nr cr:=zd _ _ _
def zfh (ns : List Nd) (k : Nat) : Bool:=(ns.take k).all fun d=>decide (d.text.size <= 2000) && decide (d.kids.length <= 100)
def fewB (ns : List Nd) (rs : List Int) (most : Nat) : Bool:=decide (ns.length <= most) && decide (rs.length <= most) && zfh ns ns.length
theorem zrc {ns : List Nd} {k : Nat} (h : k < ns.length) : zfh ns (k + 1) = (zfh ns k && (decide ((ns.getD k default).text.size <= 2000) && decide ((ns.getD k default).kids.length <= 100))):=by
 unfold zfh
 rw [List.take_succ_eq_append_getElem h,List.all_append,List.getD_eq_getElem?_getD,List.getElem?_eq_getElem h];simp
theorem zfi {ns : List Nd} {k j : Nat} (hk : k < j) (hj : j <= ns.length) (h : zfh ns (k + 1) = false) : zfh ns j = false:=by
 unfold zfh at *
 rw [List.all_eq_false] at h ⊢
 obtain ⟨x,hx,h2⟩:=h
 refine ⟨x,?_,h2⟩
 exact (List.take_prefix_take_left (l:=ns) (by omega : k + 1 <= j)).subset hx
def fixB (z : Int) : Bool:=decide (-1152921504606846976 <= z) && decide (z < 1152921504606846976)
def nK (x : Int) : Int:=(ofR x).1
def nN (x : Int) : Int:=(ofR x).2.1
def ks (x : Int) : Bool:=decide (nK x = 1) && (decide (0 <= nN x) && decide (nN x < 4294967296))
def kt (l : List Int) : Bool:=decide (nN (l.getD 0 0) = 1)
def jp (l : List Int) : List Nat:=(l.drop 1).map (fun y=>(nN y).toNat)
def bigB (l : List Int) : Bool:=decide (0 < l.length) && (l.all ks && (decide (nN (l.getD 0 0) <= 1) && (jz (kt l) (jp l) && !fixB (sgn (kt l) (val B32 (jp l))))))
def byB (x : Int) : Bool:=decide (nK x = 1) && (decide (0 <= nN x) && decide (nN x <= 255))
def lrB (x : Int) : Bool:=decide (nK x = 4)
def byT (l : List Int) : List Nat:=l.map (fun x=>(nN x).toNat)
def lrT (l : List Int) : List Nat:=l.flatMap (fun x=>bs (Utf8.encode (nN x)))
def vh : Nd:=⟨11,0,ByteArray.empty,[]⟩
abbrev Hp:=Int -> Option (Int × List Int)
section
variable {O : Hp}
def Eqv (O : Hp) (a b : Int) : Prop:=a = b \/ ∃ f,O a = some (5,f) /\ O b = some (5,f) /\ bigB f = true
def Bis (O : Hp) (R : Int -> Int -> Prop) : Prop:=∀ a b,R a b -> Eqv O a b \/ ∃ k f g,O a = some (k,f) /\ O b = some (k,g) /\ (1 <= k /\ k <= 4) /\ f.length = g.length /\ ∀ j,j < f.length -> R (f.getD j 0) (g.getD j 0)
def ja (O : Hp) (a b : Int) : Prop:=∃ R,Bis O R /\ R a b
theorem Eqv.refl (a : Int) : Eqv O a a:=.inl rfl
theorem Eqv.alike {a b : Int} (h : Eqv O a b) : ja O a b:=⟨Eqv O,fun a b h=>.inl h,h⟩
theorem kw : Bis O (ja O):=by
 rintro a b ⟨R,hR,h⟩
 rcases hR a b h with h | ⟨k,f,g,h1,h2,h3,h4,h5⟩
 ·exact .inl h
 ·exact .inr ⟨k,f,g,h1,h2,h3,h4,fun j hj=>⟨R,hR,h5 j hj⟩⟩
theorem ja.refl (a : Int) : ja O a a:=(Eqv.refl a).alike
def May (O : Hp) (a b : Int) : Prop:=∃ k f g,O a = some (k,f) /\ O b = some (k,g) /\ (k = 5 \/ (1 <= k /\ k <= 4) /\ f.length = g.length)
theorem ja.may {a b : Int} (h : ja O a b) (hne : a ≠ b) : May O a b:=by
 rcases kw a b h with (h | ⟨f,h1,h2,h3⟩) | ⟨k,f,g,h1,h2,h3,h4,h5⟩
 ·exact absurd h hne
 ·exact ⟨5,f,f,h1,h2,.inl rfl⟩
 ·exact ⟨k,f,g,h1,h2,.inr ⟨h3,h4⟩⟩
def Done (O : Hp) (root : Int -> Int) (a b : Int) : Prop:=∃ k f g,O a = some (k,f) /\ O b = some (k,g) /\ ((k = 5 /\ f = g /\ bigB f = true) \/ ((1 <= k /\ k <= 4) /\ f.length = g.length /\ ∀ j,j < f.length -> root (f.getD j 0) = root (g.getD j 0)))
theorem Done.mono {root root' : Int -> Int} {a b : Int} (h : Done O root a b) (hr : ∀ x y,root x = root y -> root' x = root' y) : Done O root' a b:=by
 obtain ⟨k,f,g,h1,h2,h3⟩:=h
 refine ⟨k,f,g,h1,h2,h3.imp id (fun h=>⟨h.1,h.2.1,fun j hj=>hr _ _ (h.2.2 j hj)⟩)⟩
structure UF (O : Hp) (root : Int -> Int) (G : List (Int × Int)) : Prop where
 gen : ∀ S : Int -> Int -> Prop,(∀ x,S x x) -> (∀ x y,S x y -> S y x) -> (∀ x y z,S x y -> S y z -> S x z) -> (∀ p∈G,S p.1 p.2) -> ∀ x y,root x = root y -> S x y
 rel : ∀ p∈G,root p.1 = root p.2
 idem : ∀ x,root (root x) = root x
 obj : ∀ x,O x ≠ none -> O (root x) ≠ none
theorem UF.start (O : Hp) : UF O id []:=⟨fun S h1 _ _ _ x y e=>(by have : x = y:=e;subst this;exact h1 x),fun p hp=>(by cases hp),fun _=>rfl,fun x h=>h⟩
def ke (root : Int -> Int) (ra rb : Int) : Int -> Int:=fun x=>if root x = rb then ra else root x
theorem UF.join {root : Int -> Int} {G : List (Int × Int)} (h : UF O root G) {a b : Int} (ha : O a ≠ none) (hb : O b ≠ none) (hne : root a ≠ root b) : UF O (ke root (root a) (root b)) ((a,b) :: G):=by
 refine ⟨fun S h1 h2 h3 h4 x y e=>?_,fun p hp=>?_,fun x=>?_,fun x hx=>?_⟩
 ·have hG : ∀ x y, root x = root y -> S x y := h.gen S h1 h2 h3 (fun p hp => h4 p (List.mem_cons_of_mem _ hp))
  have hab : S a b:=h4 (a,b) List.mem_cons_self
  unfold ke at e
  split at e
  ·rename_i ex
   split at e
   ·rename_i ey;exact hG x y (ex.trans ey.symm)
   ·exact h3 x b y (hG x b ex) (h3 b a y (h2 a b hab) (hG a y e))
  ·split at e
   ·rename_i ey;exact h3 x a y (hG x a e) (h3 a b y hab (hG b y ey.symm))
   ·exact hG x y e
 ·unfold ke
  rcases List.mem_cons.1 hp with rfl | hp
  ·show (if root a = root b then root a else root a) = (if root b = root b then root a else root b)
   rw [if_neg hne,if_pos rfl]
  ·rw [h.rel p hp]
 ·unfold ke
  by_cases e : root x = root b
  ·rw [if_pos e,h.idem,if_neg hne]
  ·rw [if_neg e,h.idem,if_neg e]
 ·unfold ke
  split
  ·exact h.obj a ha
  ·exact h.obj x hx
theorem zbv {root : Int -> Int} {ra rb : Int} (x y : Int) (h : root x = root y) : ke root ra rb x = ke root ra rb y:=by unfold ke;rw [h]
theorem UF.alike {root : Int -> Int} {G : List (Int × Int)} (h : UF O root G) (hd : ∀ p∈G,Done O root p.1 p.2) {a b : Int} (e : root a = root b) : ja O a b:=by
 have key : ∀ x y,root x = root y -> x = y \/ Done O root x y:=by
  refine h.gen _ (fun x=>.inl rfl) (fun x y hh=>?_) (fun x y z h1 h2=>?_) (fun p hp=>.inr (hd p hp))
  ·rcases hh with rfl | ⟨k, f, g, h1, h2, h3⟩
   ·exact .inl rfl
   ·refine .inr ⟨k, g, f, h2, h1, ?_⟩
    rcases h3 with ⟨e1,e2,e3⟩ | ⟨e1,e2,e3⟩
    ·exact .inl ⟨e1,e2.symm,e2 ▸ e3⟩
    ·exact .inr ⟨e1,e2.symm,fun j hj=>(e3 j (by omega)).symm⟩
  ·rcases h1 with rfl | ⟨k, f, g, a1, a2, a3⟩
   ·exact h2
   rcases h2 with rfl | ⟨k',f',g',b1,b2,b3⟩
   ·exact .inr ⟨k,f,g,a1,a2,a3⟩
   rw [a2] at b1
   injection b1 with b1
   injection b1 with e1 e2
   subst e1 e2
   refine .inr ⟨k,f,g',a1,b2,?_⟩
   rcases a3 with ⟨c1,c2,c3⟩ | ⟨c1,c2,c3⟩
   ·rcases b3 with ⟨d1, d2, d3⟩ | ⟨d1, d2, d3⟩
    ·exact .inl ⟨c1,c2.trans d2,c3⟩
    ·omega
   ·rcases b3 with ⟨d1, d2, d3⟩ | ⟨d1, d2, d3⟩
    ·omega
    ·exact .inr ⟨c1,c2.trans d2,fun j hj=>(c3 j hj).trans (d3 j (by omega))⟩
 refine ⟨fun x y=>root x = root y,fun x y hxy=>?_,e⟩
 rcases key x y hxy with rfl | ⟨k,f,g,h1,h2,h3⟩
 ·exact .inl (.inl rfl)
 rcases h3 with ⟨e1,e2,e3⟩ | ⟨e1,e2,e3⟩
 ·subst e1 e2
  exact .inl (.inr ⟨f,h1,h2,e3⟩)
 ·exact .inr ⟨k,f,g,h1,h2,e1,e2,e3⟩
def zkk (P : List Int) (root : Int -> Int) : Nat:=(P.filter (fun p=>decide (root p = p))).length
theorem zbw {p q : Int -> Bool} : ∀ {l : List Int},(∀ x∈l,q x = true -> p x = true) -> (∃ x∈l,p x = true /\ q x = false) -> (l.filter q).length < (l.filter p).length
 | [],_,h=>by obtain ⟨x,hx,_⟩:=h;cases hx
 | a :: l, h1, h2 => by
  have hle : (l.filter q).length <= (l.filter p).length:=by
   clear h2
   have h1' : ∀ x∈l,q x = true -> p x = true:=fun x hx=>h1 x (List.mem_cons_of_mem _ hx)
   clear h1
   induction l with
   | nil=>simp
   | cons b l ih =>
    have:=ih (fun x hx=>h1' x (List.mem_cons_of_mem _ hx))
    have hb:=h1' b List.mem_cons_self
    cases hq : q b
    ·rw [List.filter_cons_of_neg (by simp [hq])]
     cases hp : p b
     ·rw [List.filter_cons_of_neg (by simp [hp])];exact this
     ·rw [List.filter_cons_of_pos hp,List.length_cons];omega
    ·rw [List.filter_cons_of_pos hq,List.filter_cons_of_pos (hb hq),List.length_cons,List.length_cons];omega
  have ha:=h1 a List.mem_cons_self
  cases hq : q a
  ·rw [List.filter_cons_of_neg (by simp [hq])]
   cases hp : p a
   ·rw [List.filter_cons_of_neg (by simp [hp])]
    obtain ⟨x,hx,e1,e2⟩:=h2
    rcases List.mem_cons.1 hx with rfl | hx
    ·rw [hp] at e1;cases e1
    ·exact zbw (fun x hx=>h1 x (List.mem_cons_of_mem _ hx)) ⟨x,hx,e1,e2⟩
   ·rw [List.filter_cons_of_pos hp,List.length_cons];omega
  ·rw [List.filter_cons_of_pos hq, List.filter_cons_of_pos (ha hq), List.length_cons, List.length_cons]
   obtain ⟨x,hx,e1,e2⟩:=h2
   rcases List.mem_cons.1 hx with rfl | hx
   ·rw [hq] at e2;cases e2
   ·have := zbw (fun x hx => h1 x (List.mem_cons_of_mem _ hx)) ⟨x, hx, e1, e2⟩
    omega
theorem UF.less {root : Int -> Int} {G : List (Int × Int)} (h : UF O root G) {P : List Int} {a b : Int} (hP : root b∈P) (hne : root a ≠ root b) : zkk P (ke root (root a) (root b)) < zkk P root:=by
 unfold zkk
 refine zbw (fun x hx e=>?_) ⟨root b,hP,decide_eq_true (h.idem b),decide_eq_false (fun e=>?_)⟩
 ·have e := of_decide_eq_true e
  refine decide_eq_true ?_
  unfold ke at e
  split at e
  ·rename_i ex
   exfalso
   have : root a = root b:=by rw [<- h.idem a,e,ex]
   exact hne this
  ·exact e
 ·unfold ke at e
  rw [if_pos (h.idem b)] at e
  exact hne e
structure FO (O : Hp) (L : Int -> Option Int) (root : Int -> Int) (d : Int -> Nat) : Prop where
 no : ∀ x,L x = none -> root x = x
 yes : ∀ x n,L x = some n -> root n = root x /\ d n < d x
theorem FO.top {L : Int -> Option Int} {root : Int -> Int} {d : Int -> Nat} (h : FO O L root d) (x : Int) : L (root x) = none:=by
 induction hk : d x using Nat.strongRecOn generalizing x with
 | _ k ih =>
  cases e : L x with
  | none=>rw [h.no x e];exact e
  | some n =>
   obtain ⟨h1,h2⟩:=h.yes x n e
   rw [<- h1]
   exact ih (d n) (by omega) n rfl
def upd (L : Int -> Option Int) (x n : Int) : Int -> Option Int:=fun y=>if y = x then some n else L y
theorem FO.half {L : Int -> Option Int} {root : Int -> Int} {d : Int -> Nat} (h : FO O L root d) {x n f : Int} (hn : L x = some n) (hf : L n = some f) : FO O (upd L x f) root d:=by
 refine ⟨fun y e=>?_,fun y m e=>?_⟩
 ·unfold upd at e
  split at e
  ·cases e
  ·exact h.no y e
 ·unfold upd at e
  split at e
  ·rename_i ey
   subst ey
   injection e with e
   subst e
   have h1:=h.yes y n hn
   have h2:=h.yes n f hf
   exact ⟨h2.1.trans h1.1,by omega⟩
  ·exact h.yes y m e
theorem FO.join {L : Int -> Option Int} {root : Int -> Int} {d : Int -> Nat} (h : FO O L root d) {ra rb : Int} (ha : L ra = none) (hb : L rb = none) (hne : ra ≠ rb) : FO O (upd L rb ra) (ke root ra rb) (fun x=>if root x = rb then d x + d ra + 1 else d x):=by
 have ea:=h.no ra ha
 have eb:=h.no rb hb
 refine ⟨fun y e=>?_,fun y m e=>?_⟩
 ·unfold upd at e
  split at e
  ·cases e
  ·rename_i hy
   unfold ke
   rw [h.no y e,if_neg hy]
 ·unfold upd at e
  unfold ke
  split at e
  ·rename_i ey
   subst ey
   injection e with e
   subst e
   rw [ea,eb,if_neg hne,if_pos rfl,if_neg hne,if_pos rfl]
   exact ⟨rfl,by omega⟩
  ·obtain ⟨h1, h2⟩ := h.yes y m e
   rw [h1]
   refine ⟨rfl,?_⟩
   by_cases e2 : root y = rb
   ·rw [if_pos e2,if_pos e2];omega
   ·rw [if_neg e2,if_neg e2];exact h2
end
theorem zaz (t : Nat) (h : t < 9223372036854775808) : bits .and .i64 (t : Int) 255 = ((t % 256 : Nat) : Int):=by
 have h1 : (BitVec.ofInt 64 (t : Int)).toNat = t:=by
  rw [BitVec.ofInt_natCast,BitVec.toNat_ofNat];exact Nat.mod_eq_of_lt (by omega)
 show IntKind.i64.wrap ((BitVec.ofInt 64 (t : Int) &&& BitVec.ofInt 64 255).toNat : Int) = _
 rw [BitVec.toNat_and,h1]
 have h2 : (BitVec.ofInt 64 255).toNat = 2 ^ 8 - 1:=by decide
 rw [h2,Nat.and_two_pow_sub_one_eq_mod,IntKind.wrap_i64]
 omega
def dgi (c : Nat) : Int:=if dgt c = 36 then -1 else (dgt c : Int)
set_option maxHeartbeats 800000 in
theorem v6 (c : Nat) (hc : c < 256) (w : World) :
  Calls Tryz.prog 137 #[.int .u8 c] w fun e w'=>e = .returned (.int .i64 (dgi c)) /\ w' = w:=by
 by_cases a1 : 48 <= c /\ c <= 57
 ·obtain ⟨a, b⟩ := a1
  have HV : Hid (dgi c = (c : Int) - 48):=by
   have : dgt c = c - 48:=by unfold dgt;rw [if_pos ⟨a,b⟩]
   unfold Hid dgi;rw [this,if_neg (by omega)];omega
  go_enter Tryz.func137,Tryz.ntmps137
  go_wp2
  go_ret
  exact ⟨zac (by rw [HV.out] <;> omega),rfl⟩
 ·by_cases a2 : 97 <= c /\ c <= 122
  ·obtain ⟨a, b⟩ := a2
   have HV : Hid (dgi c = (c : Int) - 87):=by
    have : dgt c = c - 87:=by unfold dgt;rw [if_neg a1,if_pos ⟨a,b⟩]
    unfold Hid dgi;rw [this,if_neg (by omega)];omega
   clear a1
   go_enter Tryz.func137,Tryz.ntmps137
   go_wp2
   go_ret
   exact ⟨zac (by rw [HV.out] <;> omega),rfl⟩
  ·by_cases a3 : 65 <= c /\ c <= 90
   ·obtain ⟨a, b⟩ := a3
    have HV : Hid (dgi c = (c : Int) - 55):=by
     have : dgt c = c - 55:=by unfold dgt;rw [if_neg a1,if_neg a2,if_pos ⟨a,b⟩]
     unfold Hid dgi;rw [this,if_neg (by omega)];omega
    clear a1 a2
    go_enter Tryz.func137,Tryz.ntmps137
    go_wp2
    go_ret
    exact ⟨zac (by rw [HV.out] <;> omega),rfl⟩
   ·have HV : Hid (dgi c = -1) := by
     have : dgt c = 36:=by unfold dgt;rw [if_neg a1,if_neg a2,if_neg a3]
     unfold Hid dgi;rw [this,if_pos rfl]
    have hr : c < 48 \/ (57 < c /\ c < 65) \/ (90 < c /\ c < 97) \/ 122 < c:=by omega
    clear a1 a2 a3
    rcases hr with h | ⟨h,h'⟩ | ⟨h,h'⟩ | h
    all_goals
     go_enter Tryz.func137,Tryz.ntmps137
     go_wp2
     go_ret
     exact ⟨zac (by rw [HV.out]),rfl⟩
theorem zug {l : List Nat} {c : Nat} {r : List Nat} (h : l = c :: r) (hc : c = 43 \/ c = 45) : cutS l = (decide (c = 45),r):=by
 subst h;simp [cutS,hc]
theorem zrd {l : List Nat} {c : Nat} {r : List Nat} (h : l = c :: r) (hc : ¬ (c = 43 \/ c = 45)) : cutS l = (false,c :: r):=by
 subst h;simp [cutS,hc]
theorem zba {rx : Nat} {l : List Nat} (h0 : 0 < l.length) (h : ∀ j,j < l.length -> dgt (l.getD j 0) < rx) : jl (rx : Int) l = true:=by
 unfold jl
 rw [Bool.and_eq_true]
 refine ⟨?_,by simp;intro e;rw [e] at h0;simp at h0⟩
 rw [List.all_eq_true]
 intro x hx
 obtain ⟨j,hj,rfl⟩:=List.mem_iff_getElem.1 hx
 have:=h j hj
 rw [List.getD_eq_getElem?_getD,List.getElem?_eq_getElem hj] at this
 simpa using this
theorem zbx {rx : Nat} {l : List Nat} {j : Nat} (hj : j < l.length) (h : rx <= dgt (l.getD j 0)) : jl (rx : Int) l = false:=by
 unfold jl
 rw [Bool.and_eq_false_iff]
 left
 rw [List.all_eq_false]
 exact ⟨l.getD j 0,zeo hj,by simp;rw [<- List.getD_eq_getElem?_getD];omega⟩
theorem zfj {rx : Int} : jl rx [] = false:=by simp [jl]
theorem qb (l : List Nat) (a j : Nat) : (l.drop a).getD j 0 = l.getD (a + j) 0:=by
 rw [List.getD_eq_getElem?_getD,List.getElem?_drop,<- List.getD_eq_getElem?_getD]
end Go.Proofs.YticimejfjjmikaaGreatDoor
