import Derived.Test.YticimejfjjmikaaGreatDoorQ15
import Derived.Test.YticimejfjjmikaaGreatDoorSL3
import Derived.Test.YticimejfjjmikaaGreatDoorU34
set_option linter.unusedVariables false
set_option linter.unusedSimpArgs false
set_option maxRecDepth 100000
namespace Go.Proofs.YticimejfjjmikaaGreatDoor
open Go.RowKit
theorem ztg (an ar : Option Addr) (nn cn nr cr : Nat) (ns : List Nd) (rs : List Int) (w : World) (G : GIs w an nn cn ar nr cr ns rs) :
  Calls Tryz.prog 16 #[GVal an nn cn ar nr cr] w fun e w'=>e = .returned (.bool (fewB ns rs 30 && decide (0 < nn))) /\ Below w.heap.size w w':=by
 have hfi:=G.nodes.fits
 have hmo:=G.nodes.most
 unfold maxLen at hmo
 have b0:=Ba w (.cells #[.slice an nn cn,.slice ar nr cr] 34)
 have hbx:=zd w #[.slice an nn cn,.slice ar nr cr] 34
 have CF:=hid (zeo1 an ar nn cn nr cr ns rs 30 (by omega) _ (G.below b0))
 obtain ⟨W1,hW1⟩ : ∃ W,W = w.alloc (.cells #[.slice an nn cn,.slice ar nr cr] 34):=⟨_,rfl⟩
 rw [<- hW1] at b0 hbx
 have HB0:=hid b0
 have HX : Hid (∀ W,Below W1.heap.size W1 W -> W.cell? ⟨w.heap.size,0,none⟩ = some (.slice an nn cn)):=fun W hb=>za ((hb.block w.heap.size (by rw [hW1,zb];omega)).trans hbx) 0
 have c0:=za hbx 0
 have c1:=za hbx 1
 rw [hW1] at c0 c1
 have e30 : ((30 : Nat) : Int) = 30:=rfl
 rw [e30] at CF
 obtain ⟨fb,hfb⟩ : ∃ b,b = fewB ns rs 30:=⟨_,rfl⟩
 rw [<- hfb] at CF
 rw [<- hfb]
 unfold GVal at CF
 unfold GVal
 clear G hbx b0 hfb
 have HW1:=hid hW1
 have ed : decide ((0 : Int) < (nn : Int)) = decide (0 < nn):=by
  by_cases h : 0 < nn
  ·rw [decide_eq_true h,decide_eq_true (by omega)]
  ·rw [decide_eq_false h,decide_eq_false (by omega)]
 clear hW1
 cases fb
 ·go_enter Tryz.func16, Tryz.ntmps16
  go_wp2_with (go_at_call 50;refine CF.out.mono ?_;rintro e W2 ⟨rfl,b2⟩;rw [<- HW1.out] at b2;have HB2:=hid (Bt HB0.out b2);clear b2)
  go_ret
  exact ⟨rfl,HB2.out⟩
 ·go_enter Tryz.func16, Tryz.ntmps16
  go_wp2_with (go_at_call 50;refine CF.out.mono ?_;rintro e W2 ⟨rfl,b2⟩;rw [<- HW1.out] at b2;have HB2:=hid (Bt HB0.out b2);have x2:=HX.out W2 b2;clear b2)
  go_ret
  refine ⟨?_,HB2.out⟩
  rw [Bool.true_and,<- ed]
  rfl
theorem zbq1 {ns : List Nd} (hs : qj ns) (hk : ∀ d∈ns,d.kids.length <= 100) (hn : ns.length <= 100) : (yz ns).1 = [] \/ (yz ns).1.length = ns.length:=by
 by_cases e : (yz ns).2.1 = 0
 ·right
  have h:=zjt (N:=20000) (os:=[]) (nm:=[]) (rs:=jf ns.length) e hs hk hn (by omega) (by simp)
  rw [yz,h.words]
  unfold pR
  rw [List.length_map,h.len.2,zgy]
 ·left
  rw [yz,(zgx (N:=20000) (os:=[]) (nm:=[]) (ns:=ns) (rs:=jf ns.length) e).1]
def atW (ws : List Int) (i : Int) : Int:=ws.getD ((i.tmod ws.length + ws.length).tmod ws.length).toNat 0
theorem zqr {i n : Int} (hn : 0 < n) : 0 <= (i.tmod n + n).tmod n /\ (i.tmod n + n).tmod n < n:=by
 have h1:=Int.tmod_lt_of_pos i hn
 have h2 : -n < i.tmod n:=by
  have:=Int.tmod_lt_of_pos (-i) hn
  rw [Int.neg_tmod] at this
  omega
 have h3 : 0 <= i.tmod n + n:=by omega
 exact ⟨Int.tmod_nonneg _ h3,Int.tmod_lt_of_pos _ hn⟩
theorem zcm1 {ws : List Int} (h : 0 < ws.length) (i : Int) : atW ws i∈ws:=by
 unfold atW
 have:=zqr (i:=i) (n:=ws.length) (by omega)
 exact ji (by omega)
theorem zfn1 (ao : Option Addr) (n cap : Nat) (ws : List Int) (i : Int) (hi : Z64 i) (w : World) (R : URow w ao n cap ws) (hn : 0 < n) (hsm : n <= 1000000) : Calls Tryz.prog 19 #[.slice ao n cap,.int .i64 i] w fun e w'=>e = .returned (.int .u64 (atW ws i)) /\ w' = w:=by
 have hf:=R.fits
 have hm:=R.most
 unfold maxLen at hm
 have hl:=R.len
 obtain ⟨b,o,rfl,_,hcc⟩:=R.some hn
 have hr:=zqr (i:=i) (n:=(n : Int)) (by omega)
 have h1:=Int.tmod_lt_of_pos i (show (0 : Int) < (n : Int) by omega)
 have h2 : -(n : Int) < i.tmod n:=by
  have:=Int.tmod_lt_of_pos (-i) (show (0 : Int) < (n : Int) by omega)
  rw [Int.neg_tmod] at this
  omega
 obtain ⟨k,hk⟩ : ∃ k : Nat,(i.tmod n + n).tmod n = (k : Int):=⟨((i.tmod n + n).tmod n).toNat,by omega⟩
 rw [hk] at hr
 have hc:=hcc k (by omega)
 have e : atW ws i = ws.getD k 0:=by unfold atW;rw [hl,hk];rfl
 rw [e]
 obtain ⟨z,hz⟩ : ∃ z,z = ws.getD k 0:=⟨_,rfl⟩
 rw [<- hz] at hc ⊢
 have hn0 : ((n : Int) == 0) = false:=by simp;omega
 unfold Z64 at hi
 have hkn : k < n:=by omega
 clear R hcc hz e hl hr
 go_enter Tryz.func19,Tryz.ntmps19
 go_wp2
 go_ret
 exact ⟨rfl,rfl⟩
def Bel (W0 W : World) : Prop:=Below W0.heap.size W0 W
structure EqC (v : Value) (os : List Ob) (W0 : World) : Prop where
 q : ∀ x y,U64 x -> U64 y -> ∀ W,Bel W0 W -> Calls Tryz.prog 20 #[v,.int .u64 x,.int .u64 y] W fun e w'=>e = .returned (.bool (eqvB os x y)) /\ Bel W0 w'
 a : ∀ x y,U64 x -> U64 y -> ∀ W,Bel W0 W -> Calls Tryz.prog 22 #[v,.int .u64 x,.int .u64 y] W fun e w'=>e = .returned (.bool (alikeB os x y)) /\ Bel W0 w'
theorem EqC.of {B : Nat} {v : Value} {N : Int} {os : List Ob} {F : Nat -> Prop} {W0 : World} (h : HE B v N os F W0) (hT : vx W0) (hX : TxOk os) : EqC v os W0 :=
 ⟨fun x y hx hy W hb=>(zex x y hx hy W (h.on hb) (hT.below hb)).mono (fun e w' ⟨h1,h2⟩=>⟨h1,Bt hb h2⟩),fun x y hx hy W hb=>(zbl x y hx hy W (h.on hb) (hT.below hb) hX).mono (fun e w' ⟨h1,h2⟩=>⟨h1,Bt hb h2⟩)⟩
def Cls (os : List Ob) : Prop:=∀ o∈os,∀ z∈o.f,nK z = 2 -> ∃ k,zr os z = some k
section
variable {os : List Ob} {l : List Bool}
theorem zye (hu : zc os <= 1099511627776) (hl : l.length = os.length) (f : List Int) : bigB (f.map (zo os l)) = bigB f /\ (bigB f = true -> f.map (zo os l) = f):=by
 have hlm:=zgj1 hu hl (p:=ks) (fun x e=>by unfold ks;rw [e];rfl) f
 by_cases e : f.all ks = true
 ·rw [hlm.2 e];exact ⟨rfl,fun _=>rfl⟩
 ·have e' : f.all ks = false := by simpa using e
  have b1 : bigB f = false:=by unfold bigB;rw [e'];simp
  have b2 : bigB (f.map (zo os l)) = false:=by unfold bigB;rw [hlm.1,e'];simp
  rw [b1,b2];exact ⟨rfl,fun h=>by cases h⟩
def Kept (os : List Ob) (l : List Bool) (x : Int) : Prop:=U64 x /\ Firm os l x
theorem zav (hu : zc os <= 1099511627776) (hl : l.length = os.length) {x : Int} (h : Kept os l x) : hpO (jc os l) (zo os l x) = (hpO os x).map (fun p=>(p.1,p.2.map (zo os l))):=by
 by_cases e : nK x = 2
 ·obtain ⟨k, hf, hb⟩ := h.2 e
  obtain ⟨j,h1,h2⟩:=zru hu hl hf hb
  rw [qq h1,qq hf,h2];rfl
 ·rw [zan e,zcc (zcz e),zcc (zcz e)];rfl
theorem zbr1 (hu : zc os <= 1099511627776) (hl : l.length = os.length) {x y : Int} (hx : Kept os l x) (hy : Kept os l y) (e : zo os l x = zo os l y) : x = y:=by
 by_cases ex : nK x = 2
 ·have ey : nK y = 2 := by
   refine Classical.byContradiction (fun hn=>?_)
   have:=znt hu hl ex
   rw [e,zan hn] at this
   exact hn this
  obtain ⟨i,fi,bi⟩:=hx.2 ex
  obtain ⟨k,fk,bk⟩:=hy.2 ey
  have hi:=(yc fi).1
  have hk:=(yc fk).1
  have mx : zo os l x = zj 2 (toM os l i : Nat) 0:=by unfold zo;rw [fi];simp only [bi,if_true]
  have my : zo os l y = zj 2 (toM os l k : Nat) 0:=by unfold zo;rw [fk];simp only [bk,if_true]
  rw [mx,my] at e
  have h1:=zcx hl (i:=i) (by omega)
  have h2:=zcx hl (i:=k) (by omega)
  have l1:=kj hi
  have l2:=kj hk
  have a1:=(say2 (n:=toM os l i) (by omega)).2
  have a2:=(say2 (n:=toM os l k) (by omega)).2
  rw [e] at a1
  have : toM os l i = toM os l k:=by have:=a1.symm.trans a2;omega
  have hik:=zeu1 hl hi hk bi bk this
  subst hik
  exact zlb hx.1 hy.1 fi fk
 ·have ey : nK y ≠ 2 := fun h2 => by
   have:=znt hu hl h2
   rw [<- e,zan ex] at this
   exact ex this
  rw [zan ex,zan ey] at e
  exact e
variable {rs : List Int}
theorem zbm (ho : OsOk os) (hc : Cls os) {x : Int} (hx : Kept os (lvL os rs) x) {k : Int} {f : List Int} (h : hpO os x = some (k,f)) : ∀ z∈f,Kept os (lvL os rs) z:=by
 obtain ⟨i,hf,_,h2⟩:=zlf h
 obtain ⟨i',hf',hb⟩:=hx.2 (zdv hf)
 rw [hf] at hf'
 injection hf' with e
 subst e
 have hm:=yi (yc hf).1
 intro z hz
 rw [<- h2] at hz
 refine ⟨ho.uf _ hm z hz,fun e2=>?_⟩
 obtain ⟨j,hj⟩:=hc _ hm z hz e2
 exact ⟨j,hj,zfv.2 (.step (zfv.1 hb) hz hj)⟩
theorem zmt (hc : ∀ z∈rs,nK z = 2 -> ∃ k,zr os z = some k) (hU : ∀ z∈rs,U64 z) {x : Int} (hx : x∈rs) : Kept os (lvL os rs) x :=
 ⟨hU x hx,fun e=>by
  obtain ⟨k,hk⟩:=hc x hx e
  exact ⟨k,hk,zfv.2 (.root hx hk)⟩⟩
theorem zdo {P : Int -> Prop} {f : List Int} {j : Nat} (h : ∀ z∈f,P z) (hj : j < f.length) : P (f.getD j 0):=h _ (zq hj)
theorem zey {f : List Int} {g : Int -> Int} {j : Nat} (hj : j < f.length) : (f.map g).getD j 0 = g (f.getD j 0):=x9 hj
theorem zha (ho : OsOk os) (hu : zc os <= 1099511627776) {x y : Int} (hx : Kept os (lvL os rs) x) (hy : Kept os (lvL os rs) y) : Eqv (hpO (jc os (lvL os rs))) (zo os (lvL os rs) x) (zo os (lvL os rs) y) ↔ Eqv (hpO os) x y:=by
 have hl:=qu os rs
 constructor
 ·rintro (e | ⟨f, h1, h2, h3⟩)
  ·exact .inl (zbr1 hu hl hx hy e)
  ·rw [zav hu hl hx] at h1
   rw [zav hu hl hy] at h2
   obtain ⟨⟨k,f1⟩,a1,a2⟩:=Option.map_eq_some_iff.1 h1
   obtain ⟨⟨k',f2⟩,b1,b2⟩:=Option.map_eq_some_iff.1 h2
   injection a2 with a2 a3
   injection b2 with b2 b3
   simp only at a2 a3 b2 b3
   subst a2 b2
   have m1:=zye hu hl f1
   have m2:=zye hu hl f2
   rw [a3] at m1
   rw [b3] at m2
   have e1:=m1.2 (m1.1 ▸ h3)
   have e2:=m2.2 (m2.1 ▸ h3)
   subst e1
   exact .inr ⟨f,a1,by rw [b1,e2],h3⟩
 ·rintro (e | ⟨f, h1, h2, h3⟩)
  ·exact .inl (by rw [e])
  ·refine .inr ⟨f.map (zo os (lvL os rs)), by rw [zav hu hl hx, h1]; rfl, by rw [zav hu hl hy, h2]; rfl, ?_⟩
   rw [(zye hu hl f).1];exact h3
theorem zoq (ho : OsOk os) (hc : Cls os) (hu : zc os <= 1099511627776) {x y : Int} (hx : Kept os (lvL os rs) x) (hy : Kept os (lvL os rs) y) : ja (hpO (jc os (lvL os rs))) (zo os (lvL os rs) x) (zo os (lvL os rs) y) ↔ ja (hpO os) x y:=by
 have hl:=qu os rs
 constructor
 ·intro h
  refine ⟨fun a b=>Kept os (lvL os rs) a /\ Kept os (lvL os rs) b /\ ja (hpO (jc os (lvL os rs))) (zo os (lvL os rs) a) (zo os (lvL os rs) b),fun a b hab=>?_,hx,hy,h⟩
  obtain ⟨ka,kb,hab⟩:=hab
  rcases kw _ _ hab with e | ⟨k,f,g,h1,h2,h3,h4,h5⟩
  ·exact .inl ((zha ho hu ka kb).1 e)
  ·rw [zav hu hl ka] at h1
   rw [zav hu hl kb] at h2
   obtain ⟨⟨k1,f1⟩,a1,a2⟩:=Option.map_eq_some_iff.1 h1
   obtain ⟨⟨k2,f2⟩,b1,b2⟩:=Option.map_eq_some_iff.1 h2
   injection a2 with a2 a3
   injection b2 with b2 b3
   simp only at a2 a3 b2 b3
   subst a2 a3 b2 b3
   rw [List.length_map,List.length_map] at h4
   refine .inr ⟨_,f1,f2,a1,b1,h3,h4,fun j hj=>⟨zdo (zbm ho hc ka a1) hj,zdo (zbm ho hc kb b1) (by omega),?_⟩⟩
   have:=h5 j (by rw [List.length_map];exact hj)
   rw [zey hj,zey (by omega)] at this
   exact this
 ·intro h
  refine ⟨fun a b=>∃ u v,Kept os (lvL os rs) u /\ Kept os (lvL os rs) v /\ ja (hpO os) u v /\ a = zo os (lvL os rs) u /\ b = zo os (lvL os rs) v,fun a b hab=>?_,x,y,hx,hy,h,rfl,rfl⟩
  obtain ⟨u,v,ku,kv,huv,rfl,rfl⟩:=hab
  rcases kw _ _ huv with e | ⟨k,f,g,h1,h2,h3,h4,h5⟩
  ·exact .inl ((zha ho hu ku kv).2 e)
  ·refine .inr ⟨k, f.map (zo os (lvL os rs)), g.map (zo os (lvL os rs)), by rw [zav hu hl ku, h1]; rfl, by rw [zav hu hl kv, h2]; rfl, h3, by rw [List.length_map, List.length_map]; exact h4, fun j hj => ?_⟩
   rw [List.length_map] at hj
   rw [zey hj,zey (by omega)]
   exact ⟨_,_,zdo (zbm ho hc ku h1) hj,zdo (zbm ho hc kv h2) (by omega),h5 j hj,rfl,rfl⟩
theorem zth (ho : OsOk os) (hu : zc os <= 1099511627776) {x y : Int} (hx : Kept os (lvL os rs) x) (hy : Kept os (lvL os rs) y) : eqvB (jc os (lvL os rs)) (zo os (lvL os rs) x) (zo os (lvL os rs) y) = eqvB os x y:=by
 have:=zha ho hu hx hy
 rw [<- zpk,<- zpk] at this
 exact Bool.eq_iff_iff.2 this
theorem zmu (ho : OsOk os) (hc : Cls os) (hu : zc os <= 1099511627776) {x y : Int} (hx : Kept os (lvL os rs) x) (hy : Kept os (lvL os rs) y) : alikeB (jc os (lvL os rs)) (zo os (lvL os rs) x) (zo os (lvL os rs) y) = alikeB os x y:=by
 have:=zoq ho hc hu hx hy
 rw [<- gy,<- gy] at this
 exact Bool.eq_iff_iff.2 this
theorem zti (hu : zc os <= 1099511627776) (hl : l.length = os.length) (hT : TxOk os) : TxOk (jc os l):=by
 intro o ho h34 z hz
 unfold jc at ho
 obtain ⟨o',ho',rfl⟩:=List.mem_map.1 ho
 obtain ⟨z',hz',rfl⟩:=List.mem_map.1 hz
 have hm : o'∈os:=zbg ho'
 have:=hT o' hm h34 z' hz'
 rw [zan this];exact this
end
theorem zor {ns : List Nd} (hs : qj ns) (hk : ∀ d∈ns,d.kids.length <= 100) (hn : ns.length <= 100) : Cls (yz ns).2.2.1 /\ ∀ z∈(yz ns).1,nK z = 2 -> ∃ k,zr (yz ns).2.2.1 z = some k:=by
 by_cases e : (yz ns).2.1 = 0
 ·have h := zjt (N := 20000) (os := []) (nm := []) (rs := jf ns.length) e hs hk hn (by omega) (by simp)
  have hok:=h.ok
  have key : ∀ y : Int,0 <= y -> y < (zg ns (jf ns.length)).1.length -> nK (pW [] [] (zg ns (jf ns.length)).1 y) = 2 -> ∃ k,zr (pO [] [] (zg ns (jf ns.length)).1) (pW [] [] (zg ns (jf ns.length)).1 y) = some k:=fun y h0 h1 h2=>by
   have hz:=(hok.says (i:=y.toNat) (by omega)).1 h2
   obtain ⟨k,hf,_⟩:=hok.place (i:=y.toNat) (by omega) hz
   exact ⟨k,hf⟩
  rw [yz,h.objs,h.words]
  refine ⟨fun o ho z hz h2=>?_,fun z hz h2=>?_⟩
  ·have ho : o ∈ z7 (putS [] (zc []) (zg ns (jf ns.length)).1).ws (zg ns (jf ns.length)).1 := by simpa using ho
   unfold z7 at ho
   obtain ⟨d,hd,rfl⟩:=List.mem_map.1 ho
   obtain ⟨hd1,hd2⟩:=List.mem_filter.1 hd
   obtain ⟨y,hy,rfl⟩:=zoi (hok.nd d hd1) (of_decide_eq_true hd2) hz h2
   have hr:=zz ((ym h.goodC).1 d hd1) y hy
   exact key y hr.1 hr.2 h2
  ·obtain ⟨y, hy, rfl⟩ := List.mem_map.1 hz
   have hr:=zz (ym h.goodC).2 y hy
   exact key y hr.1 hr.2 h2
 ·have := zgx (N := 20000) (os := []) (nm := []) (ns := ns) (rs := jf ns.length) e
  rw [yz,this.2.1,this.1]
  exact ⟨fun o ho=>(by cases ho),fun z hz=>(by cases hz)⟩
theorem zbs1 {w : World} {g : Nat} {a b : Int} {t : TypeId} (h : w.heap[g]? = some (.cells #[.int .u64 a,.int .u64 b] t (0,0))) (ha : U64 a) (hb : U64 b) : URow w (some ⟨g,0,none⟩) 2 2 [a,b] :=
 ⟨rfl,Nat.le_refl _,by unfold maxLen;omega,fun e=>(by cases e),fun y hy=>by simp at hy;rcases hy with rfl | rfl <;> assumption,.inr ⟨g,0,rfl,(Array.getElem?_eq_some_iff.1 h).1,fun i hi=>by
  have : i = 0 \/ i = 1:=by simp at hi;omega
  rcases this with rfl | rfl
  ·exact za h 0
  ·exact za h 1⟩⟩
theorem zcn1 {W wx wy : World} {p o : Nat} {a0 a1 : Value} (h : wx.cell? ⟨p,o,none⟩ = some a0 /\ wx.cell? ⟨p,o + 1,none⟩ = some a1 /\ Below W.heap.size W wx) (hb : Below wx.heap.size wx wy) : wy.cell? ⟨p,o,none⟩ = some a0 /\ wy.cell? ⟨p,o + 1,none⟩ = some a1 /\ Below W.heap.size W wy :=
 ⟨(hb.cell (p:=⟨p,o,none⟩) (qe h.1)).trans h.1,(hb.cell (p:=⟨p,o + 1,none⟩) (qe h.2.1)).trans h.2.1,Bt h.2.2 hb⟩
theorem zjw {W wx : World} {p o : Nat} {a0 a1 : Value} (h : wx.cell? ⟨p,o,none⟩ = some a0 /\ wx.cell? ⟨p,o + 1,none⟩ = some a1 /\ Below W.heap.size W wx) : Below W.heap.size W wx:=h.2.2
theorem zco1 {W wx wy : World} {p : Nat} {a0 a1 : Value} (h : wx.cell? ⟨p,0,none⟩ = some a0 /\ wx.cell? ⟨p,1,none⟩ = some a1 /\ Below W.heap.size W wx) (hb : Below wx.heap.size wx wy) : wy.cell? ⟨p,0,none⟩ = some a0 /\ wy.cell? ⟨p,1,none⟩ = some a1 /\ Below W.heap.size W wy :=
 ⟨(hb.cell (p:=⟨p,0,none⟩) (qe h.1)).trans h.1,(hb.cell (p:=⟨p,1,none⟩) (qe h.2.1)).trans h.2.1,Bt h.2.2 hb⟩
theorem zos {W wx : World} {p : Nat} {a0 a1 : Value} (h : wx.cell? ⟨p,0,none⟩ = some a0 /\ wx.cell? ⟨p,1,none⟩ = some a1 /\ Below W.heap.size W wx) : Below W.heap.size W wx:=h.2.2
set_option maxHeartbeats 32000000 in
theorem zhb (an ar : Option Addr) (nn cn nr cr : Nat) (ns : List Nd) (rs : List Int) (jk i0 i1 : Int) (w : World) (G : GIs w an nn cn ar nr cr ns rs) (hj : Z64 jk) (h0 : Z64 i0) (h1 : Z64 i1) (hT : vx w) :
  Calls Tryz.prog 7 #[GVal an nn cn ar nr cr,.int .i64 jk,.agg #[.int .i64 i0,.int .i64 i1]] w fun e w'=>e = .returned (.bool true) /\ Below w.heap.size w w':=by
 have HG:=hid G
 have HT:=hid hT
 have CA : Hid (∀ wx,Bel w wx -> Calls Tryz.prog 18 #[] wx fun e w'=>e = .returned (.bool true) /\ Bel w w'):=fun wx hb=>(zif wx (hT.below hb)).mono (fun e w' ⟨h1,h2⟩=>⟨h1,Bt hb h2⟩)
 have b0:=Bt (Ba w (.cells #[.slice an nn cn,.slice ar nr cr] 34)) (Ba _ (.cells #[.int .i64 i0,.int .i64 i1] 55))
 have hx0:=(Ba (w.alloc (.cells #[.slice an nn cn,.slice ar nr cr] 34)) (.cells #[.int .i64 i0,.int .i64 i1] 55)).block w.heap.size (by rw [zb];omega)
 rw [zd] at hx0
 have hx1:=zd (w.alloc (.cells #[.slice an nn cn,.slice ar nr cr] 34)) #[.int .i64 i0,.int .i64 i1] 55
 rw [zb] at hx1
 obtain ⟨W0,hW0⟩ : ∃ W,W = (w.alloc (.cells #[.slice an nn cn,.slice ar nr cr] 34)).alloc (.cells #[.int .i64 i0,.int .i64 i1] 55):=⟨_,rfl⟩
 rw [<- hW0] at b0 hx0 hx1
 have hs0 : W0.heap.size = w.heap.size + 1 + 1:=by rw [hW0,zb,zb]
 have HB0:=hid b0
 have HX : Hid (∀ W,Below W0.heap.size W0 W -> W.cell? ⟨w.heap.size,0,none⟩ = some (.slice an nn cn) /\ W.cell? ⟨w.heap.size,1,none⟩ = some (.slice ar nr cr) /\ W.cell? ⟨w.heap.size + 1,0,none⟩ = some (.int .i64 i0) /\ W.cell? ⟨w.heap.size + 1,1,none⟩ = some (.int .i64 i1)):=fun W hb=>by
  have k0:=(hb.block w.heap.size (by omega)).trans hx0
  have k1:=(hb.block (w.heap.size + 1) (by omega)).trans hx1
  exact ⟨za k0 0,za k0 1,za k1 0,za k1 1⟩
 have CS:=hid (ztg an ar nn cn nr cr ns rs W0 (G.below b0))
 have hln:=G.nodes.len
 obtain ⟨c0,c1,_,_⟩:=HX.out W0 (Below.refl _ _)
 have HW0:=hid hW0
 obtain ⟨fb,hfb⟩ : ∃ b,b = (fewB ns rs 30 && decide (0 < nn)):=⟨_,rfl⟩
 rw [<- hfb] at CS
 unfold GVal at CS
 unfold GVal
 rw [hW0] at c0 c1
 clear G hT b0 hx0 hx1 hs0
 cases fb
 ·clear hW0 hfb
  go_enter Tryz.func7,Tryz.ntmps7
  go_wp2_with (go_at_call 16;rw [<- HW0.out];refine CS.out.mono ?_;rintro e W1 ⟨rfl,b1⟩;have HB1:=hid (Bt HB0.out b1);clear b1)
  go_ret
  exact ⟨rfl,HB1.out⟩
 have hfw : fewB ns rs 30 = true /\ 0 < nn:=by
  have:=hfb.symm
  rw [Bool.and_eq_true,decide_eq_true_eq] at this
  exact this
 obtain ⟨f1,f2,f3,f4⟩:=zwy hfw.1
 have CL : Hid (∀ W,Below W0.heap.size W0 W -> Calls Tryz.prog 17 #[.agg #[.slice an nn cn,.slice ar nr cr]] W (zyd ns W)):=fun W hb=>zqq an ar nn cn nr cr ns rs W ((HG.out.below HB0.out).below hb) f3 f4 (by omega) ((HT.out.below HB0.out).below hb)
 have HTX:=hid (zms f3 f4 (by omega))
 have HCL:=hid (zor f3 f4 (by omega))
 have hlr : (yz ns).1.length <= 1000000:=by
  rcases zbq1 f3 f4 (by omega) with e | e
  ·rw [e];simp
  ·omega
 unfold zyd at CL
 obtain ⟨r,hr⟩ : ∃ r,r = yz ns:=⟨_,rfl⟩
 rw [<- hr] at CL HTX HCL hlr
 obtain ⟨nw,hnw⟩ : ∃ n,n = r.1.length:=⟨_,rfl⟩
 rw [<- hnw] at CL hlr
 have HNW:=hid hnw
 clear hr hnw hfb hfw f1 f2 f3 f4 hW0 HG
 by_cases hz : nw = 0
 ·subst hz
  go_enter Tryz.func7,Tryz.ntmps7
  go_wp2_with (first
   | (go_at_call 16;rw [<- HW0.out];refine CS.out.mono ?_;rintro e W1 ⟨rfl,b1⟩;have C2:=hid (CL.out W1 b1);obtain ⟨d0,d1,_,_⟩:=HX.out W1 b1;have HB1:=hid b1;clear b1)
   | (go_at_call 17;refine C2.out.mono ?_;rintro e W2 ⟨v,g,ao,cap,F,vL,ls,B',rfl,u2,h2,r2,_,_,_,b2⟩;have C3:=hid (CA.out W2 (Bt HB0.out (Bt HB1.out b2)));clear u2 h2 r2 b2)
   | (go_at_call 18;refine C3.out.mono ?_;rintro e W3 ⟨rfl,b3⟩;have HB3:=hid b3;clear b3))
  go_ret
  exact ⟨rfl,HB3.out⟩
 have hz0 : ((nw : Int) == 0) = false:=by simp;omega
 go_enter Tryz.func7,Tryz.ntmps7
 go_wp2_with (first
  | (go_at_call 16;rw [<- HW0.out];refine CS.out.mono ?_;rintro e W1 ⟨rfl,b1⟩;have C2:=hid (CL.out W1 b1);obtain ⟨d0,d1,_,_⟩:=HX.out W1 b1;have HB1:=hid b1;clear b1)
  | (go_at_call 17;refine C2.out.mono ?_;rintro e W2 ⟨v,g,ao,cap,F,vL,ls,B',rfl,u2,h2,r2,_,_,_,b2⟩;have HB12:=hid b2;have HBL:=hid b2.size;have HU2:=hid u2;have HH2:=hid h2;have HB2:=hid (Bt HB1.out b2);clear u2 h2 r2 b2))
 obtain ⟨gh,rfl⟩:=HH2.out.ph.ptr
 have hU:=HU2.out.bd
 have HTW : Hid (vx W2):=(HT.out.below HB0.out).below HB2.out
 have EC:=hid (EqC.of HH2.out HTW.out HTX.out)
 have hw2 : Bel w W2:=Bt HB0.out HB2.out
 have HBW : Hid (∀ W,Bel W2 W -> Bel w W):=fun W hb=>Bt hw2 hb
 obtain ⟨_,_,k0,k1⟩:=HX.out W2 HB2.out
 have hf:=HU2.out.fits
 have hm:=HU2.out.most
 unfold maxLen at hm
 have CT : Hid (∀ i,Z64 i -> ∀ wx,Below W2.heap.size W2 wx -> Calls Tryz.prog 19 #[.slice ao nw cap,.int .i64 i] wx fun e w'=>e = .returned (.int .u64 (atW r.1 i)) /\ Below wx.heap.size wx w'):=fun i hi wx hb=>(zfn1 ao nw cap r.1 i hi wx (HU2.out.on hb) (by omega) hlr).mono (fun e w' ⟨h1,h2⟩=>⟨h1,by rw [h2];exact Below.refl _ _⟩)
 have mx:=zcm1 (ws:=r.1) (by rw [<- HNW.out];omega) i0
 have my:=zcm1 (ws:=r.1) (by rw [<- HNW.out];omega) i1
 have ux : U64 (atW r.1 i0):=hU _ mx
 have uy : U64 (atW r.1 i1):=hU _ my
 have T0:=hid (CT.out i0 h0)
 have T1:=hid (CT.out i1 h1)
 obtain ⟨x,hx⟩ : ∃ x,x = atW r.1 i0:=⟨_,rfl⟩
 obtain ⟨y,hy⟩ : ∃ x,x = atW r.1 i1:=⟨_,rfl⟩
 rw [<- hx] at T0 ux mx
 rw [<- hy] at T1 uy my
 have HS0 : Hid (W2.cell? ⟨w.heap.size + 1,0,none⟩ = some (.int .i64 i0) /\ W2.cell? ⟨w.heap.size + 1,1,none⟩ = some (.int .i64 i1) /\ Below W2.heap.size W2 W2):=⟨k0,k1,Below.refl _ _⟩
 have hK : ∀ z∈[x,y],U64 z /\ (nK z = 2 -> ∃ k,zr r.2.2.1 z = some k):=fun z hz=>by
  rcases List.mem_cons.1 hz with rfl | hz
  ·exact ⟨ux,HCL.out.2 _ mx⟩
  ·obtain rfl := List.mem_singleton.1 hz
   exact ⟨uy,HCL.out.2 _ my⟩
 have kx : Kept r.2.2.1 (lvL r.2.2.1 [x,y]) x:=zmt (fun z hz=>(hK z hz).2) (fun z hz=>(hK z hz).1) (List.mem_cons_self ..)
 have ky : Kept r.2.2.1 (lvL r.2.2.1 [x,y]) y:=zmt (fun z hz=>(hK z hz).2) (fun z hz=>(hK z hz).1) (List.mem_cons_of_mem _ (List.mem_cons_self ..))
 have hus : zc r.2.2.1 <= 1099511627776:=Nat.le_trans HH2.out.used (by decide)
 have HQ:=hid (zth HH2.out.fine hus kx ky)
 have HA:=hid (zmu HH2.out.fine HCL.out.1 hus kx ky)
 have HTX6:=hid (zti hus (qu r.2.2.1 [x,y]) HTX.out)
 have HOK6:=hid (zdk1 HH2.out.fine hus (qu r.2.2.1 [x,y]))
 have hB2 : W1.heap.size <= W2.heap.size:=HBL.out
 have CC : Hid (∀ W,Bel W2 W -> Calls Tryz.prog 26 #[.pointer (some ⟨gh,0,none⟩),.slice (some ⟨W.heap.size,0,none⟩) 2 2] (W.alloc (.cells #[.int .u64 x,.int .u64 y] 44)) fun e w'=>∃ b o cap',e = .returned (.slice (some ⟨b,o,none⟩) 2 cap') /\ 2 <= cap' /\ cap' <= maxLen /\ w'.cell? ⟨b,o,none⟩ = some (.int .u64 (zo r.2.2.1 (lvL r.2.2.1 [x,y]) x)) /\ w'.cell? ⟨b,o + 1,none⟩ = some (.int .u64 (zo r.2.2.1 (lvL r.2.2.1 [x,y]) y)) /\ Bel w w' /\ vx w' /\ ∃ F',HE W1.heap.size (.pointer (some ⟨gh,0,none⟩)) 20000 (jc r.2.2.1 (lvL r.2.2.1 [x,y])) F' w'):=fun W hb=>by
  have hb' : Below W2.heap.size W2 (W.alloc (.cells #[.int .u64 x,.int .u64 y] 44)):=Bt hb (Ba W _)
  have he:=HH2.out.on hb'
  refine (zln he.fine (some ⟨W.heap.size,0,none⟩) 2 2 [x,y] _ he.ph (zbs1 (zd _ _ _) ux uy) (Nat.le_trans hB2 hb'.size) (fun a ha=>by injection ha with ha;subst ha;exact fun hF=>(by have:=(HH2.out.ph.ge _ hF).2;have:=hb.size;simp only at *;omega)) (by omega)).mono ?_
  rintro e w' ⟨ao',cap',rfl,hu,_,F',p1,p2,p3,p4⟩
  obtain ⟨b,o,rfl,hl,hc⟩:=hu.some (by omega)
  have hbel : Below W1.heap.size (W.alloc (.cells #[.int .u64 x,.int .u64 y] 44)) w':=p4.below (fun b e=>(he.ph.ge b e).1) (Nat.le_trans hB2 hb'.size)
  have hb1 : Below W1.heap.size W1 w':=(HB12.out.trans (hb'.mono hB2)).trans hbel
  have hbw : Below w.heap.size w w':=Bt (Bt HB0.out HB1.out) hb1
  refine ⟨b,o,cap',rfl,hu.fits,hu.most,hc 0 (by omega),hc 1 (by omega),hbw,HT.out.below hbw,F',p1,HOK6.out⟩
 have Qxy:=hid (EC.out.q x y ux uy)
 have Axy:=hid (EC.out.a x y ux uy)
 have CQ : Hid (∀ F' W0,HE W1.heap.size (.pointer (some ⟨gh,0,none⟩)) 20000 (jc r.2.2.1 (lvL r.2.2.1 [x,y])) F' W0 -> vx W0 -> ∀ W,Bel W0 W -> Calls Tryz.prog 20 #[.pointer (some ⟨gh,0,none⟩),.int .u64 (zo r.2.2.1 (lvL r.2.2.1 [x,y]) x),.int .u64 (zo r.2.2.1 (lvL r.2.2.1 [x,y]) y)] W fun e w'=>e = .returned (.bool (eqvB r.2.2.1 x y)) /\ Below W.heap.size W w'):=fun F' W0 h t W hb=>by
  rw [<- HQ.out]
  exact zex _ _ (xi ux) (xi uy) W (h.on hb) (t.below hb)
 have CE : Hid (∀ F' W0,HE W1.heap.size (.pointer (some ⟨gh,0,none⟩)) 20000 (jc r.2.2.1 (lvL r.2.2.1 [x,y])) F' W0 -> vx W0 -> ∀ W,Bel W0 W -> Calls Tryz.prog 22 #[.pointer (some ⟨gh,0,none⟩),.int .u64 (zo r.2.2.1 (lvL r.2.2.1 [x,y]) x),.int .u64 (zo r.2.2.1 (lvL r.2.2.1 [x,y]) y)] W fun e w'=>e = .returned (.bool (alikeB r.2.2.1 x y)) /\ Below W.heap.size W w'):=fun F' W0 h t W hb=>by
  rw [<- HA.out]
  exact zbl _ _ (xi ux) (xi uy) W (h.on hb) (t.below hb) HTX6.out
 obtain ⟨p1,hp1⟩ : ∃ b,b = eqvB r.2.2.1 x y:=⟨_,rfl⟩
 obtain ⟨p2,hp2⟩ : ∃ b,b = alikeB r.2.2.1 x y:=⟨_,rfl⟩
 obtain ⟨os6,hos6⟩ : ∃ b,b = jc r.2.2.1 (lvL r.2.2.1 [x,y]):=⟨_,rfl⟩
 obtain ⟨x6,hx6⟩ : ∃ b,b = zo r.2.2.1 (lvL r.2.2.1 [x,y]) x:=⟨_,rfl⟩
 obtain ⟨y6,hy6⟩ : ∃ b,b = zo r.2.2.1 (lvL r.2.2.1 [x,y]) y:=⟨_,rfl⟩
 rw [<- hp1] at Qxy CQ
 rw [<- hp2] at Axy CE
 rw [<- hos6,<- hx6,<- hy6] at CC CQ CE
 have ep : (p1 == p1) = true:=by simp
 have eq : (p2 == p2) = true:=by simp
 clear CT hU hx hy CL C2 CS d0 d1 c0 c1 hp1 hp2 hos6 hx6 hy6 HQ HA HTX6 HOK6 kx ky hK hus mx my
 go_wp2_with fail
 go_region_held3 (fun wx=>wx.cell? ⟨w.heap.size + 1,0,none⟩ = some (.int .i64 i0) /\ wx.cell? ⟨w.heap.size + 1,1,none⟩ = some (.int .i64 i1) /\ Below W2.heap.size W2 wx)
  (first | exact zco1 HS0.out (Bd W2 1) | exact zco1 (by assumption) (by assumption))
  (first
   | (go_at_call 19;with_reducible refine (T0.out _ ?_).mono ?_;(exact zos (by assumption));rintro e wa ⟨rfl,ba⟩)
   | (go_at_call 19;with_reducible refine (T1.out _ ?_).mono ?_;(exact zos (by assumption));rintro e wb ⟨rfl,bb'⟩))
 have hbc : Bel W2 wb:=zos (p:=w.heap.size + 1) (a0:=.int .i64 i0) (a1:=.int .i64 i1) (by assumption)
 rename_i hHeld
 clear hHeld
 go_wp2_with (first
  | (go_at_call 20;(with_reducible refine (Qxy.out _ hbc).mono ?_);rintro e W3 ⟨rfl,b3⟩)
  | (go_at_call 22;(with_reducible refine (Axy.out _ b3).mono ?_);rintro e W4 ⟨rfl,b4⟩)
  | (go_at_call 26;(with_reducible refine (CC.out _ b4).mono ?_);rintro e W6 ⟨bl,ol,cl,rfl,q1,q2,q3,q4,b6,t6,F6,h6⟩;have HT6:=hid t6;have HE6:=hid h6;have HB6:=hid b6;clear t6 h6 b6))
 unfold maxLen at q2
 have HS6 : Hid (W6.cell? ⟨bl,ol,none⟩ = some (.int .u64 x6) /\ W6.cell? ⟨bl,ol + 1,none⟩ = some (.int .u64 y6) /\ Below W6.heap.size W6 W6):=⟨q3,q4,Below.refl _ _⟩
 have CQ6 : Hid (∀ W,Below W6.heap.size W6 W -> _):=fun W hb=>CQ.out F6 W6 HE6.out HT6.out W hb
 have CE6 : Hid (∀ W,Below W6.heap.size W6 W -> _):=fun W hb=>CE.out F6 W6 HE6.out HT6.out W hb
 have CA6 : Hid (∀ W,Below W6.heap.size W6 W -> Calls Tryz.prog 18 #[] W fun e w'=>e = .returned (.bool true) /\ Below W.heap.size W w'):=fun W hb=>zif W (HT6.out.below hb)
 clear q3 q4 HX HT HTX CA HU2 HH2 CQ CE CC EC Qxy Axy HTW HCL HS0 T0 T1 k0 k1
 go_region_held3 (fun wx=>wx.cell? ⟨bl,ol,none⟩ = some (.int .u64 x6) /\ wx.cell? ⟨bl,ol + 1,none⟩ = some (.int .u64 y6) /\ Below W6.heap.size W6 wx)
  (first | exact zcn1 HS6.out (Bd W6 1) | exact zcn1 (by assumption) (by assumption))
  (first
   | (go_at_call 20;with_reducible refine (CQ6.out _ ?_).mono ?_;(exact zjw (p:=bl) (o:=ol) (a0:=.int .u64 x6) (a1:=.int .u64 y6) (by assumption));rintro e wc ⟨rfl,bc⟩)
   | (go_at_call 22;with_reducible refine (CE6.out _ ?_).mono ?_;(exact zjw (p:=bl) (o:=ol) (a0:=.int .u64 x6) (a1:=.int .u64 y6) (by assumption));rintro e wd ⟨rfl,bd⟩)
   | (go_at_call 18;with_reducible refine (CA6.out _ ?_).mono ?_;(exact zjw (p:=bl) (o:=ol) (a0:=.int .u64 x6) (a1:=.int .u64 y6) (by assumption));rintro e we ⟨rfl,be⟩))
 have hbe : Bel W6 we:=zjw (p:=bl) (o:=ol) (a0:=.int .u64 x6) (a1:=.int .u64 y6) (by assumption)
 go_wp2
 go_ret
 exact ⟨rfl,Bt HB6.out hbe⟩
end Go.Proofs.YticimejfjjmikaaGreatDoor
