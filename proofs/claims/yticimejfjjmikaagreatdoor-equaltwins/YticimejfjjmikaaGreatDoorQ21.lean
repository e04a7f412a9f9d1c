import Derived.Test.YticimejfjjmikaaGreatDoorE4
import Derived.Test.YticimejfjjmikaaGreatDoorSL3
import Derived.Test.YticimejfjjmikaaGreatDoorE5
set_option linter.unusedVariables false
set_option linter.unusedSimpArgs false
set_option maxRecDepth 100000
namespace Go.Proofs.YticimejfjjmikaaGreatDoor
open Go.RowKit
theorem zln (ns : List Nd) : (qw ns ns).length = ns.length + ns.length:=by unfold qw;rw [List.length_append,List.length_map]
theorem zix {ns : List Nd} {i : Nat} (h : i < ns.length) : (qw ns ns).getD i default = ns.getD i default:=by
 unfold qw
 rw [List.getD_eq_getElem?_getD,List.getElem?_append_left h,List.getD_eq_getElem?_getD]
theorem zpa {ns : List Nd} {i : Nat} (h : i < ns.length) : (qw ns ns).getD (ns.length + i) default = zdm ns.length (ns.getD i default):=by
 unfold qw
 rw [List.getD_eq_getElem?_getD,List.getElem?_append_right (by omega),Nat.add_sub_cancel_left,List.getElem?_map,List.getD_eq_getElem?_getD,List.getElem?_eq_getElem h];rfl
theorem zga {ns : List Nd} (h : j9 ns) : j9 (qw ns ns):=fun d hd=>by
 rcases List.mem_append.1 hd with hd | hd
 ·exact h d hd
 ·obtain ⟨d', hd', rfl⟩ := List.mem_map.1 hd
  exact h d' hd'
theorem zhi {ns : List Nd} {k : Nat} (h : ∀ d∈ns,d.kids.length <= k) : ∀ d∈qw ns ns,d.kids.length <= k:=fun d hd=>by
 rcases List.mem_append.1 hd with hd | hd
 ·exact h d hd
 ·obtain ⟨d', hd', rfl⟩ := List.mem_map.1 hd
  show (ko _ d'.kids).length <= k
  unfold ko
  rw [List.length_map];exact h d' hd'
theorem zzu {n : Nat} {z : Int} : z∈y7 n ↔ 0 <= z /\ z < n:=by
 unfold y7
 rw [List.mem_map]
 constructor
 ·rintro ⟨k, hk, rfl⟩
  have:=List.mem_range.1 hk
  omega
 ·rintro ⟨h0, h1⟩
  exact ⟨z.toNat,List.mem_range.2 (by omega),by omega⟩
section
variable {ns : List Nd}
theorem zro (hs : j9 ns) (hk : ∀ d∈ns,d.kids.length <= 100) (hn : ns.length <= 100) (e : (yo ns).2.1 = 0) :
  ∃ (cs : List Nd) (φ : Int -> Int),g6 20000 [] [] cs /\ Sim ns cs φ (fun i=>0 <= i /\ i < ns.length) /\ (∀ j j',j < j' -> j' < cs.length -> yi (cs.getD j default).kind = true -> ¬ yx (cs.getD j default) (cs.getD j' default)) /\ (yo ns).2.2.1 = pO [] [] cs /\ (∀ i,i < ns.length -> (yo ns).1.getD i 0 = pW [] [] cs (φ i)) /\ (yo ns).1.length = ns.length /\ y8 ns (y7 ns.length) = true:=by
 have h:=zis (N:=20000) (os:=[]) (nm:=[]) (rs:=y7 ns.length) e hs hk hn (by omega) (by simp)
 have hF : Fine ns (y7 ns.length) 300001:=⟨h.good,hk,by omega,by omega⟩
 obtain ⟨_,_,hm⟩:=hF.ends
 have hS:=hF.sim
 have hM : ∀ i : Int,0 <= i -> i < ns.length -> (endS ns (y7 ns.length) 300001).1.getD i.toNat 0 ≠ -1:=fun i h0 h1=>hm i (zzu.2 ⟨h0,h1⟩)
 refine ⟨(zf ns (y7 ns.length)).1,fun i=>(endS ns (y7 ns.length) 300001).1.getD i.toNat 0,h.ok,⟨fun i hi=>hi,fun i hi=>hS.rng' i ⟨hi.1,hi.2,hM i hi.1 hi.2⟩,fun i hi k hkk=>?_,fun i hi=>hS.node i ⟨hi.1,hi.2,hM i hi.1 hi.2⟩,fun i i' hi hi'=>hS.inj i i' ⟨hi.1,hi.2,hM i hi.1 hi.2⟩ ⟨hi'.1,hi'.2,hM i' hi'.1 hi'.2⟩,fun i hi=>hS.bare i ⟨hi.1,hi.2,hM i hi.1 hi.2⟩⟩,h.ord.dist,by rw [yo,h.objs],fun i hi=>?_,?_,h.good⟩
 ·have := hS.kids i ⟨hi.1, hi.2, hM i hi.1 hi.2⟩ k hkk
  exact ⟨this.1,this.2.1⟩
 ·have hc : (zf ns (y7 ns.length)).2 = jn (endS ns (y7 ns.length) 300001).1 (y7 ns.length) := by unfold zf; rw [hF.canon]
  rw [yo,h.words]
  unfold pR
  rw [hc]
  unfold jn
  rw [List.map_map,List.getD_eq_getElem?_getD,List.getElem?_map,show (y7 ns.length)[i]? = some (i : Int) by unfold y7;rw [List.getElem?_map,List.getElem?_range hi];rfl]
  rfl
 ·rw [yo, h.words]
  unfold pR
  rw [List.length_map,h.len.2,zcp]
theorem zwl {d : Nd} (hz : 0 <= zm d) (ha : yi d.kind = false) : 0 < zm d /\ 1 <= zl d /\ zl d <= 4:=by
 unfold yi at ha
 simp only [Bool.or_eq_false_iff,decide_eq_false_iff_not] at ha
 unfold zm at hz ⊢
 unfold zl
 repeat' split
 all_goals first | omega | (rename_i h;simp_all;try omega)
theorem zrp (hs : j9 ns) (hk : ∀ d ∈ ns, d.kids.length <= 100) (hn : ns.length <= 50) (e : (yo (qw ns ns)).2.1 = 0) : ∀ i, i < ns.length ->
  alikeB (yo (qw ns ns)).2.2.1 ((yo (qw ns ns)).1.getD i 0) ((yo (qw ns ns)).1.getD (ns.length + i) 0) = true /\ eqvB (yo (qw ns ns)).2.2.1 ((yo (qw ns ns)).1.getD i 0) ((yo (qw ns ns)).1.getD (ns.length + i) 0) = yi (ns.getD i default).kind:=by
 have hjl:=zln ns
 obtain ⟨cs,φ,hok,hS,hdist,ho,hw,_,hg⟩:=zro (zga hs) (zhi hk) (by omega) e
 have hgk:=(yr hg).1
 rw [ho]
 have nd : ∀ i : Nat,i < ns.length -> cs.getD (φ i).toNat default = { ns.getD i default with kids:=(ns.getD i default).kids.map φ } /\ cs.getD (φ (ns.length + i : Nat)).toNat default = { ns.getD i default with kids:=(ko ns.length (ns.getD i default).kids).map φ }:=fun i hi=>by
  have h1:=hS.node i ⟨by omega,by omega⟩
  have h2:=hS.node (ns.length + i : Nat) ⟨by omega,by omega⟩
  rw [Int.toNat_natCast] at h1 h2
  rw [zix hi] at h1
  rw [zpa hi] at h2
  exact ⟨h1,h2⟩
 have hlt : ∀ i : Nat,i < ns.length + ns.length -> 0 <= φ i /\ (φ i).toNat < cs.length:=fun i hi=>by
  have:=hS.rng' i ⟨by omega,by omega⟩
  exact ⟨this.1,by omega⟩
 have atom_eq : ∀ i : Nat,i < ns.length -> yi (ns.getD i default).kind = true -> φ i = φ (ns.length + i : Nat):=fun i hi ha=>by
  obtain ⟨n1,n2⟩:=nd i hi
  have l1:=hlt i (by omega)
  have l2:=hlt (ns.length + i) (by omega)
  have hsame : yx (cs.getD (φ i).toNat default) (cs.getD (φ (ns.length + i : Nat)).toNat default):=by rw [n1,n2];exact ⟨rfl,rfl,rfl⟩
  rcases Nat.lt_trichotomy (φ i).toNat (φ (ns.length + i : Nat)).toNat with h | h | h
  ·exact absurd hsame (hdist _ _ h l2.2 (by rw [n1];exact ha))
  ·omega
  ·exact absurd hsame.symm (hdist _ _ h l1.2 (by rw [n2];exact ha))
 have obj : ∀ i : Nat,i < ns.length -> yi (ns.getD i default).kind = false -> hpO (pO [] [] cs) (pW [] [] cs (φ i)) = some (zl (ns.getD i default),zy (cs.getD (φ i).toNat default) (putS [] (zg []) cs).ws) /\ hpO (pO [] [] cs) (pW [] [] cs (φ (ns.length + i : Nat))) = some (zl (ns.getD i default),zy (cs.getD (φ (ns.length + i : Nat)).toNat default) (putS [] (zg []) cs).ws) /\ 1 <= zl (ns.getD i default) /\ zl (ns.getD i default) <= 4:=fun i hi ha=>by
  obtain ⟨n1,n2⟩:=nd i hi
  have l1:=hlt i (by omega)
  have l2:=hlt (ns.length + i) (by omega)
  have z1:=zwl (hok.mem l1.2).2 (by rw [n1];exact ha)
  have z2:=zwl (hok.mem l2.2).2 (by rw [n2];exact ha)
  obtain ⟨k1,f1,g1,_⟩:=hok.place l1.2 z1.1
  obtain ⟨k2,f2,g2,_⟩:=hok.place l2.2 z2.1
  have e1 : zl (cs.getD (φ i).toNat default) = zl (ns.getD i default):=by rw [n1];rfl
  have e2 : zl (cs.getD (φ (ns.length + i : Nat)).toNat default) = zl (ns.getD i default):=by rw [n2];rfl
  refine ⟨?_,?_,by rw [<- e1];exact z1.2.1,by rw [<- e1];exact z1.2.2⟩
  ·rw [qu f1,g1,<- e1]
  ·rw [qu f2,g2,<- e2]
 intro i hi
 rw [hw i (by omega),hw (ns.length + i) (by omega)]
 refine ⟨(zav _ _ _).2 ⟨fun a b=>a = b \/ ∃ i : Nat,i < ns.length /\ a = pW [] [] cs (φ i) /\ b = pW [] [] cs (φ (ns.length + i : Nat)),fun a b hab=>?_,.inr ⟨i,hi,rfl,rfl⟩⟩,?_⟩
 ·rcases hab with rfl | ⟨i, hi, rfl, rfl⟩
  ·exact .inl (Eqv.refl _)
  ·cases ha : yi (ns.getD i default).kind
   ·right
    obtain ⟨o1,o2,o3,o4⟩:=obj i hi ha
    obtain ⟨n1,n2⟩:=nd i hi
    rw [n1] at o1
    rw [n2] at o2
    refine ⟨_,_,_,o1,o2,⟨o3,o4⟩,?_,?_⟩
    ·unfold zy ko
     repeat' split
     all_goals first | rfl | simp
    ·intro j hj
     unfold zy at hj ⊢
     simp only at hj ⊢
     split
     ·exact .inl rfl
     ·split
      ·exact .inl rfl
      ·split
       ·exact .inl rfl
       ·rename_i c1 c2 c3
        rw [if_neg c1,if_neg c2,if_neg c3,List.length_map,List.length_map] at hj
        have hkm:=zlm hj
        have r1:=zu (hgk _ (zw (by omega : i < (qw ns ns).length))) ((ns.getD i default).kids.getD j 0) (by rw [zix hi];exact hkm)
        have r2:=zu (hgk _ (zw (by omega : ns.length + i < (qw ns ns).length))) (wrap64 ((ns.getD i default).kids.getD j 0 + ns.length)) (by rw [zpa hi];exact List.mem_map.2 ⟨_,hkm,rfl⟩)
        rw [hjl] at r1 r2
        have hwr : wrap64 ((ns.getD i default).kids.getD j 0 + ns.length) = (ns.getD i default).kids.getD j 0 + ns.length:=zwj (by unfold I64;omega)
        rw [hwr] at r2
        right
        refine ⟨((ns.getD i default).kids.getD j 0).toNat,by omega,?_,?_⟩
        ·rw [qj (by rw [List.length_map]; exact hj), qj hj]
         show (putS [] (zg []) cs).ws.getD (φ ((ns.getD i default).kids.getD j 0)).toNat 0 = (putS [] (zg []) cs).ws.getD (φ (((ns.getD i default).kids.getD j 0).toNat : Nat)).toNat 0
         rw [show ((((ns.getD i default).kids.getD j 0).toNat : Nat) : Int) = (ns.getD i default).kids.getD j 0 by omega]
        ·unfold ko
         rw [qj (by rw [List.length_map,List.length_map];exact hj),qj (by rw [List.length_map];exact hj),qj hj,hwr]
         show (putS [] (zg []) cs).ws.getD (φ ((ns.getD i default).kids.getD j 0 + ns.length)).toNat 0 = (putS [] (zg []) cs).ws.getD (φ ((ns.length + ((ns.getD i default).kids.getD j 0).toNat : Nat) : Int)).toNat 0
         rw [show (((ns.length + ((ns.getD i default).kids.getD j 0).toNat : Nat)) : Int) = (ns.getD i default).kids.getD j 0 + ns.length by omega]
   ·left;rw [atom_eq i hi ha];exact Eqv.refl _
 ·cases ha : yi (ns.getD i default).kind
  ·have : ¬ Eqv (hpO (pO [] [] cs)) (pW [] [] cs (φ i)) (pW [] [] cs (φ (ns.length + i : Nat))) := by
    obtain ⟨o1,o2,o3,o4⟩:=obj i hi ha
    rintro (q | ⟨f,q1,q2,q3⟩)
    ·have l1 := hlt i (by omega)
     have l2:=hlt (ns.length + i) (by omega)
     rcases hok.apart l1.2 l2.2 q with h | h
     ·have : φ i = φ (ns.length + i : Nat) := by omega
      rcases hS.inj _ _ ⟨by omega,by omega⟩ ⟨by omega,by omega⟩ this with h | h
      ·omega
      ·rw [Int.toNat_natCast,zix hi,ha] at h;cases h
     ·rw [(nd i hi).1] at h
      have : yi (ns.getD i default).kind = true:=h
      rw [ha] at this;cases this
    ·rw [o1] at q1
     injection q1 with q1
     injection q1 with q1 _
     omega
   cases h : eqvB (pO [] [] cs) (pW [] [] cs (φ i)) (pW [] [] cs (φ (ns.length + i : Nat)))
   ·rfl
   ·exact absurd ((zoa _ _).1 h) this
  ·rw [atom_eq i hi ha];exact zwi _ _
end
theorem xo {w : World} {p : Addr} {a : Value} (h : w.cell? p = some a) : p.block < w.heap.size:=by
 unfold World.cell? at h
 cases e : w.heap[p.block]? with
 | none=>rw [e] at h;cases h
 | some o=>exact (Array.getElem?_eq_some_iff.1 e).1
theorem zas1 {W wx wy : World} {p q r s : Addr} {a0 a1 a2 a3 : Value} (h : wx.cell? p = some a0 /\ wx.cell? q = some a1 /\ wx.cell? r = some a2 /\ wx.cell? s = some a3 /\ Below W.heap.size W wx) (hb : Below wx.heap.size wx wy) : wy.cell? p = some a0 /\ wy.cell? q = some a1 /\ wy.cell? r = some a2 /\ wy.cell? s = some a3 /\ Below W.heap.size W wy :=
 ⟨(hb.cell (p:=p) (xo h.1)).trans h.1,(hb.cell (p:=q) (xo h.2.1)).trans h.2.1,(hb.cell (p:=r) (xo h.2.2.1)).trans h.2.2.1,(hb.cell (p:=s) (xo h.2.2.2.1)).trans h.2.2.2.1,Bt h.2.2.2.2 hb⟩
theorem znj {W wx : World} {p q r s : Addr} {a0 a1 a2 a3 : Value} (h : wx.cell? p = some a0 /\ wx.cell? q = some a1 /\ wx.cell? r = some a2 /\ wx.cell? s = some a3 /\ Below W.heap.size W wx) : Below W.heap.size W wx:=h.2.2.2.2
set_option maxHeartbeats 32000000 in
theorem zgb (an ar : Option Addr) (nn cn nr cr : Nat) (ns : List Nd) (rs : List Int) (w : World) (G : GIs w an nn cn ar nr cr ns rs) (hT : x5 w) :
  Calls Tryz.prog 6 #[GVal an nn cn ar nr cr] w fun e w'=>e = .returned (.bool true) /\ Below w.heap.size w w':=by
 have HG:=hid G
 have HT:=hid hT
 have CA : Hid (∀ wx,Bel w wx -> Calls Tryz.prog 18 #[] wx fun e w'=>e = .returned (.bool true) /\ Bel w w'):=fun wx hb=>(zrk wx (hT.below hb)).mono (fun e w' ⟨h1,h2⟩=>⟨h1,Bt hb h2⟩)
 have b0:=Ba w (.cells #[.slice an nn cn,.slice ar nr cr] 34)
 have hx0:=ze w #[.slice an nn cn,.slice ar nr cr] 34
 obtain ⟨W0,hW0⟩ : ∃ W,W = w.alloc (.cells #[.slice an nn cn,.slice ar nr cr] 34):=⟨_,rfl⟩
 rw [<- hW0] at b0 hx0
 have hs0 : W0.heap.size = w.heap.size + 1:=by rw [hW0,zb]
 have HB0:=hid b0
 have HX : Hid (∀ W,Below W0.heap.size W0 W -> W.cell? ⟨w.heap.size,0,none⟩ = some (.slice an nn cn) /\ W.cell? ⟨w.heap.size,1,none⟩ = some (.slice ar nr cr)):=fun W hb=>by
  have k0:=(hb.block w.heap.size (by omega)).trans hx0
  exact ⟨za k0 0,za k0 1⟩
 have CS:=hid (zrl an ar nn cn nr cr ns rs W0 (G.below b0))
 have hln:=G.nodes.len
 have hlr:=G.roots.len
 obtain ⟨c0,c1⟩:=HX.out W0 (Below.refl _ _)
 have HW0:=hid hW0
 obtain ⟨fb,hfb⟩ : ∃ b,b = (fewB ns rs 30 && decide (0 < nn)):=⟨_,rfl⟩
 rw [<- hfb] at CS
 unfold GVal at CS
 unfold GVal
 rw [hW0] at c0 c1
 clear G hT b0 hx0 hs0
 cases fb
 ·clear hW0 hfb
  go_enter Tryz.func6,Tryz.ntmps6
  go_wp2_with (go_at_call 16;rw [<- HW0.out];refine CS.out.mono ?_;rintro e W1 ⟨rfl,b1⟩;have HB1:=hid (Bt HB0.out b1);clear b1)
  go_ret
  exact ⟨rfl,HB1.out⟩
 have hfw : fewB ns rs 30 = true /\ 0 < nn:=by
  have:=hfb.symm
  rw [Bool.and_eq_true,decide_eq_true_eq] at this
  exact this
 obtain ⟨f1,f2,f3,f4⟩:=zvc hfw.1
 have CJ : Hid (∀ W,Below W0.heap.size W0 W -> Calls Tryz.prog 24 #[.agg #[.slice an nn cn,.slice ar nr cr],.agg #[.slice an nn cn,.slice ar nr cr]] W fun e w'=>∃ a1 n1 c1 a2 n2 c2,e = .returned (.agg #[.slice a1 n1 c1,.slice a2 n2 c2]) /\ GIs w' a1 n1 c1 a2 n2 c2 (qw ns ns) (rs ++ rs.map (fun z=>wrap64 (z + (ns.length : Int)))) /\ Below W.heap.size W w'):=fun W hb=>zrn an ar nn cn nr cr ns rs an ar nn cn nr cr ns rs W ((HG.out.below HB0.out).below hb) ((HG.out.below HB0.out).below hb) (fun d hd=>Nat.le_trans (f4 d hd) (by decide)) (fun d hd=>Nat.le_trans (f4 d hd) (by decide)) (by omega) (by omega) (by omega) (by omega)
 have hjs:=zga f3
 have hjk:=zhi f4
 have hjl:=zln ns
 have CL : Hid (∀ W a1 n1 c1 a2 n2 c2,Below W0.heap.size W0 W -> GIs W a1 n1 c1 a2 n2 c2 (qw ns ns) (rs ++ rs.map (fun z=>wrap64 (z + (ns.length : Int)))) -> Calls Tryz.prog 17 #[.agg #[.slice a1 n1 c1,.slice a2 n2 c2]] W (zwh (qw ns ns) W)):=fun W a1 n1 c1 a2 n2 c2 hb g=>zoz a1 a2 n1 c1 n2 c2 _ _ W g hjs hjk (by have:=g.nodes.len;omega) ((HT.out.below HB0.out).below hb)
 have HTX:=hid (zlk hjs hjk (by omega))
 have HLL:=hid (zzs hjs hjk (by omega))
 have HTM : Hid ((yo (qw ns ns)).2.1 = 0 -> ∀ i,i < ns.length -> _):=fun e=>zrp f3 f4 (by omega) e
 have HER : Hid ((yo (qw ns ns)).2.1 ≠ 0 -> (yo (qw ns ns)).1 = []):=fun e=>(zfx (N:=20000) (os:=[]) (nm:=[]) (ns:=qw ns ns) (rs:=y7 (qw ns ns).length) e).1
 unfold zwh at CL
 obtain ⟨r,hr⟩ : ∃ r,r = yo (qw ns ns):=⟨_,rfl⟩
 rw [<- hr] at CL HTX HLL HTM HER
 obtain ⟨nw,hnw⟩ : ∃ n,n = r.1.length:=⟨_,rfl⟩
 rw [<- hnw] at CL HLL
 have HNW:=hid hnw
 obtain ⟨JN,hJN⟩ : ∃ n,n = qw ns ns:=⟨_,rfl⟩
 obtain ⟨JR',hJR⟩ : ∃ n,n = rs ++ rs.map (fun z=>wrap64 (z + (ns.length : Int))):=⟨_,rfl⟩
 rw [<- hJN,<- hJR] at CL CJ
 rw [hjl] at HLL
 clear hr hnw hfb f1 f2 f3 f4 hW0 hjs hjk hjl hJN hJR hlr
 by_cases hz : nw = 0
 ·subst hz
  go_enter Tryz.func6,Tryz.ntmps6
  go_wp2_with (first
   | (go_at_call 16;rw [<- HW0.out];refine CS.out.mono ?_;rintro e W1 ⟨rfl,b1⟩;have C2:=hid (CJ.out W1 b1);obtain ⟨d0,d1⟩:=HX.out W1 b1;have HB1:=hid b1;clear b1)
   | (go_at_call 24;(with_reducible refine C2.out.mono ?_);rintro e W2 ⟨a1,n1,c1,a2,n2,c2,rfl,g2,b2⟩;have HB2:=hid (Bt HB1.out b2);have HG2:=hid g2;have C3:=hid (CL.out (W2.alloc (.cells #[.slice a1 n1 c1,.slice a2 n2 c2] 34)) a1 n1 c1 a2 n2 c2 (Bt (Bt HB1.out b2) (Ba W2 _)) (g2.below (Ba W2 _)));have k2:=ze W2 #[.slice a1 n1 c1,.slice a2 n2 c2] 34;have y0:=za k2 0;have y1:=za k2 1;clear g2 b2 k2)
   | (go_at_call 17;(with_reducible refine C3.out.mono ?_);rintro e W3 ⟨v,g,ao,cap,F,vL,ls,B',rfl,u3,h3,r3,_,_,_,b3⟩;have C4:=hid (CA.out W3 (Bt HB0.out (Bt HB2.out (Bt (Ba W2 _) b3))));clear u3 h3 r3 b3)
   | (go_at_call 18;(with_reducible refine C4.out.mono ?_);rintro e W4 ⟨rfl,b4⟩;have HB4:=hid b4;clear b4))
  go_ret
  exact ⟨rfl,HB4.out⟩
 have hz0 : ((nw : Int) == 0) = false:=by simp;omega
 have hnn : nw = nn + nn:=by
  rcases HLL.out with h | h
  ·exact absurd (by rw [HNW.out,h];rfl) hz
  ·omega
 have HNN:=hid hnn
 have HTW:=hid (HTM.out (Classical.byContradiction (fun h=>hz (by rw [HNW.out,HER.out h];rfl))))
 clear hnn
 go_enter Tryz.func6,Tryz.ntmps6
 go_wp2_with (first
   | (go_at_call 16;rw [<- HW0.out];refine CS.out.mono ?_;rintro e W1 ⟨rfl,b1⟩;have C2:=hid (CJ.out W1 b1);obtain ⟨d0,d1⟩:=HX.out W1 b1;have HB1:=hid b1;clear b1)
   | (go_at_call 24;(with_reducible refine C2.out.mono ?_);rintro e W2 ⟨a1,n1,c1,a2,n2,c2,rfl,g2,b2⟩;have HB2:=hid (Bt HB1.out b2);have HG2:=hid g2;have C3:=hid (CL.out (W2.alloc (.cells #[.slice a1 n1 c1,.slice a2 n2 c2] 34)) a1 n1 c1 a2 n2 c2 (Bt (Bt HB1.out b2) (Ba W2 _)) (g2.below (Ba W2 _)));have k2:=ze W2 #[.slice a1 n1 c1,.slice a2 n2 c2] 34;have y0:=za k2 0;have y1:=za k2 1;clear g2 b2 k2)
   | (go_at_call 17;(with_reducible refine C3.out.mono ?_);rintro e W3 ⟨v,g,ao,cap,F,vL,ls,B',rfl,u3,h3,r3,_,_,_,b3⟩;have HB3:=hid (Bt HB2.out (Bt (Ba W2 _) b3));obtain ⟨x0,x1⟩:=HX.out W3 (Bt HB2.out (Bt (Ba W2 _) b3));have HU3:=hid u3;have HH3:=hid h3;clear u3 h3 r3 b3))
 obtain ⟨gh,rfl⟩:=HH3.out.ph.ptr
 have HTW3 : Hid (x5 W3):=(HT.out.below HB0.out).below HB3.out
 have HBW : Hid (Bel w W3):=Bt HB0.out HB3.out
 have hU:=HU3.out.bd
 have hf:=HU3.out.fits
 have hm:=HU3.out.most
 unfold maxLen at hm
 obtain ⟨bw,ow,rfl,hbw,hcw⟩:=HU3.out.some (by have:=HNN.out;omega)
 have hG3:=(HG.out.below HB0.out).below HB3.out
 obtain ⟨bn,on_,rfl,hbn,hcn⟩:=hG3.nodes.some (by have:=hfw.2;omega)
 have hcf:=hG3.nodes.fits
 have hcm:=hG3.nodes.most
 unfold maxLen at hcm
 have HCW:=hid hcw
 have HUU : Hid (∀ i,i < nw -> U64 (r.1.getD i 0)):=fun i hi=>hU _ (zlm (by rw [<- HNW.out];exact hi))
 have HCN : Hid (∀ i,i < nn -> W3.cell? ⟨bn,on_ + i * 4,none⟩ = some (.int .i64 (ns.getD i default).kind)):=fun i hi=>(hcn i (by omega)).1
 have HSX:=hid x0
 have CQ : Hid (∀ x y,U64 x -> U64 y -> ∀ W,Below W3.heap.size W3 W -> Calls Tryz.prog 20 #[.pointer (some ⟨gh,0,none⟩),.int .u64 x,.int .u64 y] W fun e w'=>e = .returned (.bool (eqvB r.2.2.1 x y)) /\ Below W.heap.size W w'):=fun x y hx hy W hb=>zit x y hx hy W (HH3.out.on hb) (HTW3.out.below hb)
 have CE : Hid (∀ x y,U64 x -> U64 y -> ∀ W,Below W3.heap.size W3 W -> Calls Tryz.prog 22 #[.pointer (some ⟨gh,0,none⟩),.int .u64 x,.int .u64 y] W fun e w'=>e = .returned (.bool (alikeB r.2.2.1 x y)) /\ Below W.heap.size W w'):=fun x y hx hy W hb=>zdh x y hx hy W (HH3.out.on hb) (HTW3.out.below hb) HTX.out
 have CT : Hid (∀ k W,Calls Tryz.prog 25 #[.int .i64 k] W fun e w'=>e = .returned (.bool (yi k)) /\ Below W.heap.size W w'):=fun k W=>(zel k W).mono (fun e w' ⟨h1,h2⟩=>⟨h1,by rw [h2];exact Below.refl _ _⟩)
 have HB0':=hid (Below.refl W3.heap.size W3)
 clear hcw hcn hG3 hU CL C2 C3 CJ CS HX HU3 HH3 HTX HER HTM HLL HG2 d0 d1 c0 y0 y1 HT
 go_wp2_with fail
 go_loopw [9] (fun i wr=>∃ q : Nat,q <= nn /\ i = .int .i64 q /\ Hid (Below W3.heap.size W3 wr)) (fun i _=>nn - (intOf i).toNat)
 case atStart=>exact ⟨0,Nat.zero_le _,rfl,HB0'.out⟩
 case round =>
  obtain ⟨q,hq,rfl,hI⟩:=hrel
  by_cases hlt : q < nn
  ·obtain ⟨m, hmm⟩ : ∃ m, m = nn + q := ⟨_, rfl⟩
   have hnn:=HNN.out
   have z0:=(hI.out.cell (p:=⟨bw,ow + q,none⟩) (xo (HCW.out q (by omega)))).trans (HCW.out q (by omega))
   have z1:=(hI.out.cell (p:=⟨bw,ow + m,none⟩) (xo (HCW.out m (by omega)))).trans (HCW.out m (by omega))
   have z2:=(hI.out.cell (p:=⟨w.heap.size,0,none⟩) (xo HSX.out)).trans HSX.out
   have z3:=(hI.out.cell (p:=⟨bn,on_ + q * 4,none⟩) (xo (HCN.out q hlt))).trans (HCN.out q hlt)
   have ux:=HUU.out q (by omega)
   have uy:=HUU.out m (by omega)
   obtain ⟨t1,t2⟩:=HTW.out q (by omega)
   rw [hln,<- hmm] at t1 t2
   have C1:=hid (CE.out _ _ ux uy)
   have C2:=hid (CQ.out _ _ ux uy)
   have C3:=hid (CT.out (ns.getD q default).kind)
   rw [t1] at C1
   rw [t2] at C2
   obtain ⟨x,hx⟩ : ∃ x,x = r.1.getD q 0:=⟨_,rfl⟩
   obtain ⟨y,hy⟩ : ∃ x,x = r.1.getD m 0:=⟨_,rfl⟩
   obtain ⟨kd,hkd⟩ : ∃ x,x = (ns.getD q default).kind:=⟨_,rfl⟩
   obtain ⟨ab,hab⟩ : ∃ x,x = yi kd:=⟨_,rfl⟩
   rw [<- hx] at z0 C1 C2
   rw [<- hy] at z1 C1 C2
   rw [<- hkd] at z3 C2 C3
   rw [<- hab] at C2 C3
   have HS0 : Hid (wr.cell? ⟨bw,ow + q,none⟩ = some (.int .u64 x) /\ wr.cell? ⟨bw,ow + m,none⟩ = some (.int .u64 y) /\ wr.cell? ⟨w.heap.size,0,none⟩ = some (.slice (some ⟨bn,on_,none⟩) nn cn) /\ wr.cell? ⟨bn,on_ + q * 4,none⟩ = some (.int .i64 kd) /\ Below W3.heap.size W3 wr):=⟨z0,z1,z2,z3,hI.out⟩
   have hq0 : (0 : Int) <= (q : Int):=by omega
   have hq1 : (q : Int) < (nw : Int):=by omega
   have hq2 : (q : Int) < (nn : Int):=by omega
   have hm0 : (0 : Int) <= (m : Int):=by omega
   have hm1 : (m : Int) < (nw : Int):=by omega
   have hwm : IntKind.i64.wrap ((nn : Int) + (q : Int)) = (m : Int):=by rw [IntKind.wrap_i64];omega
   have hab2 : (ab != ab) = false:=by simp
   clear hx hy hkd hab t1 t2 ux uy z0 z1 z2 z3 hmm hnn
   go_wp2_with fail
   go_region_held3 (fun wx=>wx.cell? ⟨bw,ow + q,none⟩ = some (.int .u64 x) /\ wx.cell? ⟨bw,ow + m,none⟩ = some (.int .u64 y) /\ wx.cell? ⟨w.heap.size,0,none⟩ = some (.slice (some ⟨bn,on_,none⟩) nn cn) /\ wx.cell? ⟨bn,on_ + q * 4,none⟩ = some (.int .i64 kd) /\ Below W3.heap.size W3 wx)
    (first | exact zas1 HS0.out (Bd wr 1) | exact zas1 (by assumption) (by assumption))
    (first
     | (go_at_call 22;with_reducible refine (C1.out _ ?_).mono ?_;(exact znj (by assumption));rintro e wa ⟨rfl,ba⟩)
     | (go_at_call 20;with_reducible refine (C2.out _ ?_).mono ?_;(exact znj (by assumption));rintro e wb ⟨rfl,bb⟩)
     | (go_at_call 25;with_reducible refine (C3.out _).mono ?_;rintro e wc ⟨rfl,bc⟩))
   have hbc : Below W3.heap.size W3 wc:=znj (p:=⟨bw,ow + q,none⟩) (q:=⟨bw,ow + m,none⟩) (r:=⟨w.heap.size,0,none⟩) (s:=⟨bn,on_ + q * 4,none⟩) (a0:=.int .u64 x) (a1:=.int .u64 y) (a2:=.slice (some ⟨bn,on_,none⟩) nn cn) (a3:=.int .i64 kd) (by assumption)
   rename_i hHeld
   clear hHeld
   go_wp2_with fail
   exact ⟨⟨q + 1,by omega,by go_num,hbc⟩,by simp [intOf] <;> omega⟩
  ·obtain rfl : q = nn := by omega
   have C9:=hid (CA.out wr (Bt HBW.out hI.out))
   go_wp2_with (go_at_call 18;(with_reducible refine C9.out.mono ?_);rintro e W9 ⟨rfl,b9⟩)
   go_ret
   exact ⟨rfl,b9⟩
end Go.Proofs.YticimejfjjmikaaGreatDoor
