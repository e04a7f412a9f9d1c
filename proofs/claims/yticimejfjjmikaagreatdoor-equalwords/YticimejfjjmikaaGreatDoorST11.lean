import Derived.Test.YticimejfjjmikaaGreatDoorST8
import Derived.Test.YticimejfjjmikaaGreatDoorC3
import Derived.Test.YticimejfjjmikaaGreatDoorG14
set_option linter.unusedVariables false
set_option linter.unusedSimpArgs false
set_option maxRecDepth 100000
namespace Go.Proofs.YticimejfjjmikaaGreatDoor
open Go.RowKit
structure CNd (d : Nd) : Prop where
 kind : 1 <= d.kind /\ d.kind <= 17
 num : 0 <= d.num /\ d.num <= 10000000
 text : d.text.size <= 2000
 kids : d.kids.length <= 100
 int_ : d.kind = 3 -> printedB d.text = true
theorem CNd.of {n : Nat} {d : Nd} (h : nodeB n d = true) (ht : d.text.size <= 2000) (hk : d.kids.length <= 100) : CNd d:=by
 unfold nodeB at h
 simp only [Bool.and_eq_true,decide_eq_true_eq] at h
 obtain ⟨⟨⟨⟨⟨h1,h2⟩,h3⟩,h4⟩,h5⟩,h6⟩:=h
 refine ⟨⟨h1,h2⟩,?_,ht,hk,fun e=>?_⟩
 ·unfold numB at h3
  split at h3
  ·simp only [Bool.or_eq_true,decide_eq_true_eq] at h3;omega
  split at h3
  ·unfold letB at h3;simp only [Bool.and_eq_true,decide_eq_true_eq] at h3;omega
  split at h3
  ·simp only [Bool.and_eq_true,decide_eq_true_eq] at h3;omega
  ·simp only [decide_eq_true_eq] at h3;omega
 ·unfold textB at h4;rw [if_pos e] at h4;exact h4
theorem mg_len {t : ByteArray} (h : printedB t = true) : (mg (txZ t).natAbs).length <= 40:=by
 unfold printedB at h
 simp only [Bool.and_eq_true,decide_eq_true_eq] at h
 obtain ⟨⟨_,p2⟩,_⟩:=h
 have e : (txZ t).natAbs = hv 10 (cutS (bs t)).2:=by
  unfold txZ;rw [show ∀ (b : Bool) (v : Nat),(sgn b v).natAbs = v from fun b v=>by cases b <;> simp [sgn]]
 obtain ⟨h1,h2,h3,_⟩:=mgF_ok (txZ t).natAbs (txZ t).natAbs (Nat.le_refl _)
 refine length_le_of_val (B:=B32) (by decide) h2 ?_
 show val B32 (mgF (txZ t).natAbs (txZ t).natAbs) < B32 ^ 40
 rw [h3,e];exact p2
theorem CNd.size {d : Nd} (h : CNd d) : -1 <= sizeN d /\ sizeN d <= 5000:=by
 have h1:=h.text
 have h2:=h.kids
 have h3:=ltrs_len d.text
 unfold sizeN
 split
 ·omega
 split
 ·next e =>
  have:=mg_len (h.int_ e)
  split <;> omega
 split
 ·omega
 split
 ·omega
 split <;> omega
def sumN (l : List Nd) : Int:=(l.map sizeN).sum
def needM (ns : List Nd) (rs : List Int) : Int:=if goodG ns rs = true /\ (canonN ns rs).1.all (fun d=>decide (0 <= sizeN d)) = true then sumN (canonN ns rs).1 else -1
theorem sumN_take {l : List Nd} {q : Nat} (h : q < l.length) : sumN (l.take (q + 1)) = sumN (l.take q) + sizeN (l.getD q default):=by
 unfold sumN
 rw [List.take_succ_eq_append_getElem h,List.map_append,List.sum_append,List.getD_eq_getElem?_getD,List.getElem?_eq_getElem h];simp
theorem sumN_bd {l : List Nd} (h : ∀ d∈l,CNd d) : ∀ q : Nat,-(q : Int) <= sumN (l.take q) /\ sumN (l.take q) <= 5000 * q
 | 0=>by simp [sumN]
 | q + 1 => by
  have ih:=sumN_bd h q
  by_cases hq : q < l.length
  ·rw [sumN_take hq]
   have hm : l.getD q default∈l:=by rw [List.getD_eq_getElem?_getD,List.getElem?_eq_getElem hq];exact List.getElem_mem _
   have:=(h _ hm).size
   omega
  ·rw [List.take_of_length_le (by omega)] at ih ⊢
   omega
theorem fineN {ns : List Nd} {rs : List Int} (hg : goodG ns rs = true) (hk : ∀ d∈ns,d.kids.length <= 100) (hn : ns.length <= 100) : Fine ns rs 300001:=⟨hg,hk,by omega,by omega⟩
theorem canon_nodes {ns : List Nd} {rs : List Int} (hg : goodG ns rs = true) (hs : smallG ns) (hk : ∀ d∈ns,d.kids.length <= 100) (hn : ns.length <= 100) :
  (∀ d∈(canonN ns rs).1,CNd d) /\ (canonN ns rs).1.length <= 100 /\ (canonN ns rs).2.length = rs.length /\ goodG (canonN ns rs).1 (canonN ns rs).2 = true:=by
 have F:=fineN hg hk hn
 have hG:=F.goodC
 refine ⟨fun d hd=>?_,?_,F.len.2,hG⟩
 ·have h1 : (canonN ns rs).1.all (nodeB (canonN ns rs).1.length) = true := by
   unfold goodG at hG;rw [Bool.and_eq_true] at hG;exact hG.1
  exact CNd.of (List.all_eq_true.1 h1 d hd) (F.smallC hs d hd) (F.kidsC d hd)
 ·have:=F.len.1;unfold canonN;omega
set_option maxHeartbeats 4000000 in
theorem need_any (an ar : Option Addr) (nn cn nr cr : Nat) (ns : List Nd) (rs : List Int) (w : World) (G : GIs w an nn cn ar nr cr ns rs) (hs : smallG ns) (hk : ∀ d∈ns,d.kids.length <= 100) (hn : nn <= 100) (hnr : nr <= 100) :
  Calls Tryz.prog 89 #[GVal an nn cn ar nr cr] w fun e w'=>e = .returned (.int .i64 (needM ns rs)) /\ Below w.heap.size w w':=by
 have hnl:=G.nodes.len
 have f1:=G.nodes.fits
 have f2:=G.nodes.most
 have f3:=G.roots.fits
 have f4:=G.roots.most
 unfold maxLen at f2 f4
 have HG:=hid G
 have HS:=hid hs
 have HK:=hid hk
 have ba:=Ba w (.cells #[.slice an nn cn,.slice ar nr cr] 34)
 have hx:=GBox.new 34 w an ar nn cn nr cr
 have C1:=hid (rgood_g an ar nn cn nr cr ns rs (w.alloc (.cells #[.slice an nn cn,.slice ar nr cr] 34)) (G.below ba) hs (by omega))
 have HB:=hid ba
 have HX:=hid hx
 obtain ⟨c0,c1⟩:=hx.c
 have HNM : Hid (needM ns rs = if goodG ns rs = true /\ (canonN ns rs).1.all (fun d=>decide (0 <= sizeN d)) = true then sumN (canonN ns rs).1 else -1):=rfl
 have HCN : Hid (goodG ns rs = true -> (∀ d∈(canonN ns rs).1,CNd d) /\ (canonN ns rs).1.length <= 100 /\ (canonN ns rs).2.length = rs.length /\ goodG (canonN ns rs).1 (canonN ns rs).2 = true):=fun h=>canon_nodes h hs hk (by omega)
 have HG1 : Hid (∀ W1,Below (w.alloc (.cells #[.slice an nn cn,.slice ar nr cr] 34)).heap.size (w.alloc (.cells #[.slice an nn cn,.slice ar nr cr] 34)) W1 -> GBox 34 W1 w.heap.size an nn cn ar nr cr /\ GIs W1 an nn cn ar nr cr ns rs):=fun W1 b=>⟨HX.out.on b,(HG.out.below HB.out).below b⟩
 obtain ⟨gb,hgb⟩ : ∃ b,b = goodG ns rs:=⟨_,rfl⟩
 rw [<- hgb] at C1 HNM HCN
 unfold GVal at C1 ⊢
 clear G hs hk hx ba hgb
 cases gb
 ·rw [if_neg (by simp)] at HNM
  go_enter Tryz.func89,Tryz.ntmps89
  go_wp2_with (go_at_call 12;(with_reducible refine C1.out.mono ?_);rintro e W1 ⟨rfl,b1⟩;have HB1:=hid (Bt HB.out b1);clear b1)
  go_ret
  rw [HNM.out]
  exact ⟨rfl,HB1.out⟩
 ·obtain ⟨cnd, cl, crl, cgd⟩ := HCN.out rfl
  have CC : Hid (∀ W1,GIs W1 an nn cn ar nr cr ns rs -> Calls Tryz.prog 14 #[.agg #[.slice an nn cn,.slice ar nr cr]] W1 fun e w'=>∃ a1 n1 c1 a2 n2 c2,e = .returned (GVal a1 n1 c1 a2 n2 c2) /\ GIs w' a1 n1 c1 a2 n2 c2 (canonN ns rs).1 (canonN ns rs).2 /\ Below W1.heap.size W1 w'):=fun W1 g=>rcanon_any an ar nn cn nr cr ns rs W1 g HS.out HK.out (by omega) (by omega)
  unfold GVal at CC
  obtain ⟨cs,hcs⟩ : ∃ c,c = (canonN ns rs).1:=⟨_,rfl⟩
  rw [<- hcs] at CC HNM cnd cl
  have HCND:=hid cnd
  have HSB:=hid (sumN_bd cnd)
  clear HCN cnd crl cgd hcs
  go_enter Tryz.func89,Tryz.ntmps89
  go_wp2_with (first
   | (go_at_call 12;(with_reducible refine C1.out.mono ?_);rintro e W1 ⟨rfl,b1⟩;have HB1:=hid (Bt HB.out b1);obtain ⟨g1,g2⟩:=HG1.out W1 b1;have C2:=hid (CC.out W1 g2);obtain ⟨e0,e1⟩:=g1.c;clear b1 g1 g2 c0 c1)
   | (go_at_call 14;(with_reducible refine C2.out.mono ?_);rintro e W2 ⟨a1,n1,c1,a2,n2,c2,rfl,g2,b2⟩;have h1:=g2.nodes.fits;have h2:=g2.nodes.most;have h3:=g2.roots.fits;have h4:=g2.roots.most;have h5:=g2.nodes.len;have HB2:=hid (Bt (Bt HB1.out b2) (Ba W2 (.cells #[.slice a1 n1 c1,.slice a2 n2 c2] 34)));have HG2:=hid (g2.nodes.below (Ba W2 (.cells #[.slice a1 n1 c1,.slice a2 n2 c2] 34)));have HX2:=hid (GBox.new 34 W2 a1 a2 n1 c1 n2 c2);clear b2 g2 e0 e1))
  unfold maxLen at h2 h4
  obtain ⟨W3,hW3⟩ : ∃ W,W = W2.alloc (.cells #[.slice a1 n1 c1,.slice a2 n2 c2] 34):=⟨_,rfl⟩
  obtain ⟨gc,hgc⟩ : ∃ g,g = W2.heap.size:=⟨_,rfl⟩
  rw [<- hW3] at HB2 HG2 HX2 ⊢
  rw [<- hgc] at HX2 ⊢
  clear hW3 hgc
  go_loopw [4,5] (fun v i wr=>∃ q : Nat,q <= n1 /\ i = .int .i64 q /\ v = .int .i64 (sumN (cs.take q)) /\ Hid ((cs.take q).all (fun d=>decide (0 <= sizeN d)) = true /\ Below W3.heap.size W3 wr)) (fun _ i _=>n1 - (intOf i).toNat)
  case atStart=>exact ⟨0,Nat.zero_le _,rfl,rfl,rfl,Below.refl _ _⟩
  case round =>
   obtain ⟨q,hq,rfl,rfl,hI⟩:=hrel
   have HA:=hid hI.out.1
   have HBQ:=hid hI.out.2
   obtain ⟨q0,q1⟩:=(HX2.out.on HBQ.out).c
   have hsb:=HSB.out q
   obtain ⟨s,hs⟩ : ∃ s,s = sumN (cs.take q):=⟨_,rfl⟩
   rw [<- hs] at hsb ⊢
   have HSQ:=hid hs
   clear hI hs
   by_cases hlt : q < n1
   ·have hql : q < cs.length := by omega
    obtain ⟨b,o,rfl,hlb,hc⟩:=(HG2.out.below HBQ.out).some (by omega)
    obtain ⟨k1,k2,k3,ak,nk,ck,k4,k5⟩:=hc q hlt
    have hm : cs.getD q default∈cs:=by rw [List.getD_eq_getElem?_getD,List.getElem?_eq_getElem hql];exact List.getElem_mem _
    have hd:=HCND.out _ hm
    have hsz:=hd.size
    have hlk:=k5.len
    have CS:=hid (size_any (cs.getD q default) ak ck wr (by have:=hd.kind;unfold I64;omega) (by have:=hd.text;omega) (by rw [hlk];exact k5.fits) (by have:=k5.most;unfold maxLen at this;omega) (by have:=hd.kids;omega) hd.int_)
    have HTK:=hid (sumN_take hql)
    have HTA:=hid (all_take_succ (fun d=>decide (0 <= sizeN d)) hql)
    rw [HA.out] at HTA
    unfold NdVal at CS
    rw [hlk] at CS
    obtain ⟨d,hdd⟩ : ∃ d,d = cs.getD q default:=⟨_,rfl⟩
    rw [<- hdd] at k1 k2 k3 hsz CS HTK HTA
    obtain ⟨z,hz⟩ : ∃ z,z = sizeN d:=⟨_,rfl⟩
    rw [<- hz] at CS HTK hsz
    have HZ:=hid hz
    obtain ⟨dk,dn,dt,dl⟩:=d
    simp only at k1 k2 k3 CS
    clear hc hm hd hdd k5 hz hlk
    by_cases hz0 : z < 0
    ·have ez : decide (z < 0) = true := by simpa using hz0
     have hbad : Hid (cs.all (fun d=>decide (0 <= sizeN d)) = false):=all_false _ (k:=q + 1) (by rw [HTA.out,<- HZ.out];simp;omega)
     go_wp2_with (go_at_call 91;(with_reducible refine CS.out.mono ?_);rintro e W4 ⟨rfl,b4⟩;have HB4:=hid (Bt HBQ.out b4);clear b4)
     go_ret
     rw [HNM.out,hbad.out,if_neg (by simp)]
     exact ⟨rfl,Bt HB2.out HB4.out⟩
    ·have ez : decide (z < 0) = false := by simpa using hz0
     go_wp2_with (go_at_call 91;(with_reducible refine CS.out.mono ?_);rintro e W4 ⟨rfl,b4⟩;have HB4:=hid (Bt HBQ.out b4);clear b4)
     refine ⟨⟨q + 1,by omega,by go_num,?_,?_,HB4.out⟩,by simp [intOf] <;> omega⟩
     ·rw [HTK.out,<- HSQ.out]
     ·rw [HTA.out,<- HZ.out];simp;omega
   ·obtain rfl : q = n1 := by omega
    have hall:=HA.out
    have hsq:=HSQ.out
    rw [List.take_of_length_le (by omega)] at hall hsq
    have HALL:=hid hall
    have HSQ2:=hid hsq
    clear hall hsq
    go_wp2_with fail
    go_ret
    rw [HNM.out,HALL.out,if_pos (by simp),<- HSQ2.out]
    exact ⟨rfl,Bt HB2.out HBQ.out⟩
structure HN (B g : Nat) (N : Int) (vL : Value) (ls : List (Ob × Sl)) (gn : Nat) (vN : Value) (nm : List ByteArray) (w : World) : Prop where
 heap : RH B g N vL ls w
 names : NM B gn vN nm w
 apart : ∀ b,RF g vL ls b -> ¬ NF gn vN b
def HNF (g : Nat) (vL : Value) (ls : List (Ob × Sl)) (gn : Nat) (vN : Value) : Nat -> Prop:=fun b=>RF g vL ls b \/ NF gn vN b
def HNPost (B g : Nat) (N : Int) (F : Nat -> Prop) (gn : Nat) (w : World) (os' : List Ob) (nm' : List ByteArray) (w' : World) : Prop :=
 ∃ vL' ls' vN',HN B g N vL' ls' gn vN' nm' w' /\ ls'.map Prod.fst = os' /\ (∀ b,HNF g vL' ls' gn vN' b -> F b \/ w.heap.size <= b) /\ Mod F w w'
section
variable {B g gn : Nat} {N : Int} {vL vN : Value} {ls : List (Ob × Sl)} {nm : List ByteArray} {w w1 w' : World} {F : Nat -> Prop} {os : List Ob}
theorem HN.ge (h : HN B g N vL ls gn vN nm w) : ∀ b,HNF g vL ls gn vN b -> B <= b /\ b < w.heap.size:=fun b e=>e.elim (h.heap.foot_ge b) (h.names.ge b)
theorem HN.on (h : HN B g N vL ls gn vN nm w) (hb : Below w.heap.size w w') : HN B g N vL ls gn vN nm w':=⟨h.heap.on hb,h.names.on hb,h.apart⟩
theorem HN.post (h : HN B g N vL ls gn vN nm w) (hb : Below w.heap.size w w') : HNPost B g N (HNF g vL ls gn vN) gn w (ls.map Prod.fst) nm w':=⟨vL,ls,vN,h.on hb,rfl,fun _ e=>.inl e,Mod.of_below _ hb⟩
theorem HNPost.behind (h : HNPost B g N F gn w os nm w1) (hb : Below w1.heap.size w1 w') : HNPost B g N F gn w os nm w':=by
 obtain ⟨vL',ls',vN',h1,h2,h3,h4⟩:=h
 exact ⟨vL',ls',vN',h1.on hb,h2,h3,h4.trans (Mod.of_below F hb) (fun _ _ e=>e)⟩
end
structure PS where
 ws : List Int
 nm : List ByteArray
 at_ : Nat
def stepP (s : PS) (d : Nd) : PS :=
 if sizeN d = 0 then ⟨s.ws ++ [plainWd s.nm d],plainN s.nm d,s.at_⟩ else ⟨s.ws ++ [wordR 2 (s.at_ : Nat) 0],s.nm,s.at_ + (sizeN d).toNat⟩
def putS (nm : List ByteArray) (at_ : Nat) (cs : List Nd) : PS:=cs.foldl stepP ⟨[],nm,at_⟩
def putO (N : Int) (ws : List Int) (os : List Ob) (cs : List Nd) : List Ob:=cs.foldl (fun os d=>if 0 < sizeN d then allocO os N (fieldsK d) (fieldsL d ws) else os) os
theorem putS_take {nm : List ByteArray} {a : Nat} {cs : List Nd} {q : Nat} (h : q < cs.length) : putS nm a (cs.take (q + 1)) = stepP (putS nm a (cs.take q)) (cs.getD q default):=by
 unfold putS
 rw [List.take_succ_eq_append_getElem h,List.foldl_append,List.getD_eq_getElem?_getD,List.getElem?_eq_getElem h];rfl
theorem putO_take {N : Int} {ws : List Int} {os : List Ob} {cs : List Nd} {q : Nat} (h : q < cs.length) : putO N ws os (cs.take (q + 1)) = if 0 < sizeN (cs.getD q default) then allocO (putO N ws os (cs.take q)) N (fieldsK (cs.getD q default)) (fieldsL (cs.getD q default) ws) else putO N ws os (cs.take q):=by
 unfold putO
 rw [List.take_succ_eq_append_getElem h,List.foldl_append,List.getD_eq_getElem?_getD,List.getElem?_eq_getElem h];rfl
theorem putS_len {nm : List ByteArray} {a : Nat} {cs : List Nd} : ∀ q,q <= cs.length -> (putS nm a (cs.take q)).ws.length = q
 | 0,_=>by simp [putS]
 | q + 1,h=>by
  rw [putS_take (by omega)]
  have ih:=putS_len (nm:=nm) (a:=a) (cs:=cs) q (by omega)
  unfold stepP
  split <;> simp [ih]
theorem idL_len (ls : List ByteArray) (s : ByteArray) : (idL ls s).length <= ls.length + 1:=by
 unfold idL;split <;> simp
theorem plainN_len (ls : List ByteArray) (d : Nd) : (plainN ls d).length <= ls.length + 1:=by
 unfold plainN
 split
 ·exact idL_len _ _
 ·omega
theorem putS_nm {nm : List ByteArray} {a : Nat} {cs : List Nd} : ∀ q,q <= cs.length -> (putS nm a (cs.take q)).nm.length <= nm.length + q
 | 0,_=>by simp [putS]
 | q + 1, h => by
  rw [putS_take (by omega)]
  have ih:=putS_nm (nm:=nm) (a:=a) (cs:=cs) q (by omega)
  unfold stepP
  split
  ·have := plainN_len (putS nm a (cs.take q)).nm (cs.getD q default)
   show (plainN (putS nm a (cs.take q)).nm (cs.getD q default)).length <= _
   omega
  ·show (putS nm a (cs.take q)).nm.length <= _
   omega
theorem putS_u {nm : List ByteArray} {a : Nat} {cs : List Nd} : ∀ q,q <= cs.length -> ∀ z∈(putS nm a (cs.take q)).ws,U64 z
 | 0,_=>by simp [putS]
 | q + 1, h => by
  rw [putS_take (by omega)]
  have ih:=putS_u (nm:=nm) (a:=a) (cs:=cs) q (by omega)
  unfold stepP
  split
  ·intro z hz
   rcases List.mem_append.1 hz with hz | hz
   ·exact ih z hz
   ·obtain rfl:=List.mem_singleton.1 hz;exact plainWd_u _ _
  ·intro z hz
   rcases List.mem_append.1 hz with hz | hz
   ·exact ih z hz
   ·obtain rfl:=List.mem_singleton.1 hz;exact wordR_rng _ _ _
theorem putS_at {nm : List ByteArray} {a : Nat} {cs : List Nd} (hc : cs.all (fun d=>decide (0 <= sizeN d)) = true) : ∀ q,q <= cs.length -> ((putS nm a (cs.take q)).at_ : Int) = a + sumN (cs.take q)
 | 0,_=>by simp [putS,sumN]
 | q + 1,h=>by
  have hq : q < cs.length:=by omega
  rw [putS_take hq,sumN_take hq]
  have ih:=putS_at (nm:=nm) (a:=a) hc q (by omega)
  have hm : cs.getD q default∈cs:=by rw [List.getD_eq_getElem?_getD,List.getElem?_eq_getElem hq];exact List.getElem_mem _
  have h0:=of_decide_eq_true (List.all_eq_true.1 hc _ hm)
  unfold stepP
  split
  ·next e=>rw [e];show ((putS nm a (cs.take q)).at_ : Int) = _;omega
  ·show (((putS nm a (cs.take q)).at_ + (sizeN (cs.getD q default)).toNat : Nat) : Int) = _;omega
def putR (N : Int) (os : List Ob) (nm : List ByteArray) (ns : List Nd) (rs : List Int) : List Int × Int × List Ob × List ByteArray :=
 if needM ns rs < 0 then ([],20,os,nm) else if N - (usedL os : Nat) < needM ns rs then ([],3,os,nm)
 else ((canonN ns rs).2.map (fun i : Int=>(putS nm (usedL os) (canonN ns rs).1).ws.getD i.toNat 0),0,putO N (putS nm (usedL os) (canonN ns rs).1).ws os (canonN ns rs).1,(putS nm (usedL os) (canonN ns rs).1).nm)
theorem appW {P : Program} {w : World} {ops : Array Oper} {rest : List Oper} {o : Oper} {a : Act} {Q : Exit -> Act -> World -> Prop} (hgd : o.guard = none) (s x : Operand) (t : TypeId) (ho : o.op = .call { callee:=.builtin .append,args:=#[s,x],argTypes:=#[t,t] })
  (base : Nat) (e : TypeId) (ht : P.underlying t = some (.slice e)) (hi : (P.info? e).map (fun i=>(i.zero,i.size,i.bytes)) = some (some (.int .u64 0),1,8))
  (v : Value) (n : Nat) (l : List Int) (hs : a.eval s = v) (hown : w.ownsRow base e 1 v n (uz l))
  (ad : Addr) (c : Nat) (d : Int) (hx : a.eval x = .slice (some ad) 1 c) (hd : w.cell? ad = some (.int .u64 d)) (hsm : n <= 10000000) (hbase : base <= w.heap.size)
  (h : ∀ g cap w',w'.ownsRow base e 1 (.slice (some ⟨g,0,none⟩) (n + 1) cap) (n + 1) (uz (l ++ [d])) -> w.grownBy w' v.ownBlock -> (v.ownBlock = some g \/ g = w.heap.size) -> g < w'.heap.size -> wpList P ops Q rest (a.put o.dst (.slice (some ⟨g,0,none⟩) (n + 1) cap)) w') :
  wpList P ops Q (o :: rest) a w:=by
 obtain ⟨i0,hi0,hz0,hz1,hz2⟩ : ∃ i0,P.info? e = some i0 /\ i0.zero = some (.int .u64 0) /\ i0.size = 1 /\ i0.bytes = 8:=by
  cases h : P.info? e with
  | none=>rw [h] at hi;cases hi
  | some i=>rw [h] at hi;simp at hi;exact ⟨i,rfl,hi.1,hi.2.1,hi.2.2⟩
 refine wpList_append_lies w hgd s x t ho base e i0 (.int .u64 0) 1 8 ht hi0 hz0 hz1 hz2 rfl (by decide) v n (uz l) hs hown ad 1 c [.int .u64 d] hx rfl ?_ ?_ (by decide) (by unfold maxLen;omega) (by omega) hbase w.heap.size rfl ?_
 ·intro j u hj
  match j,hj with
  | 0,hj=>simp at hj;subst hj;simpa [Addr.add] using hd
 ·intro u hu;simp at hu;subst hu;rfl
 ·intro g cap w' h1 h2 h3 h4
  refine h g cap w' ?_ h2 h3 h4
  rw [uz_append];exact h1
structure PQ (B g gn : Nat) (N : Int) (F : Nat -> Prop) (W : World) (vL : Value) (ls : List (Ob × Sl)) (vN : Value) (nm : List ByteArray) (v : Value) (n : Nat) (ws : List Int) (wr : World) : Prop where
 hn : HN B g N vL ls gn vN nm wr
 foot : ∀ b,HNF g vL ls gn vN b -> F b \/ W.heap.size <= b
 mod : Mod F W wr
 row : wr.ownsRow W.heap.size 44 1 v n (uz ws)
 off : ∀ b,v.ownBlock = some b -> ¬ HNF g vL ls gn vN b
section
variable {B g gn : Nat} {N : Int} {F : Nat -> Prop} {W : World} {vL : Value} {ls : List (Ob × Sl)} {vN : Value} {nm : List ByteArray} {v : Value} {n : Nat} {ws : List Int} {wr w' : World}
theorem PQ.on (h : PQ B g gn N F W vL ls vN nm v n ws wr) (hb : Below wr.heap.size wr w') : PQ B g gn N F W vL ls vN nm v n ws w' :=
 ⟨h.hn.on hb,h.foot,h.mod.trans (Mod.of_below F hb) (fun _ _ e=>e),uown_on h.row hb,h.off⟩
theorem PQ.name {nm' : List ByteArray} (h : PQ B g gn N F W vL ls vN nm v n ws wr) (k : NPost B gn vN wr nm' w') : ∃ vN',PQ B g gn N F W vL ls vN' nm' v n ws w':=by
 obtain ⟨vN2,k1,k2,k3⟩:=k
 have hs:=h.mod.size
 refine ⟨vN2,⟨h.hn.heap.mod k3 h.hn.apart,k1,fun b e e'=>?_⟩,fun b e=>?_,h.mod.trans k3 (fun b hb e=>?_),own_at h.row (fun b e=>k3.block b (h.row.lt b e).2 (fun e'=>h.off b e (.inr e'))),fun b e e'=>?_⟩
 ·rcases k2 b e' with e2 | e2
  ·exact h.hn.apart b e e2
  ·have:=(h.hn.heap.foot_ge b e).2;omega
 ·rcases e with e | e
  ·exact h.foot b (.inl e)
  ·rcases k2 b e with e2 | e2
   ·exact h.foot b (.inr e2)
   ·exact .inr (by omega)
 ·rcases h.foot b (.inr e) with e2 | e2
  ·exact e2
  ·omega
 ·have hl := (h.row.lt b e).2
  rcases e' with e' | e'
  ·exact h.off b e (.inl e')
  ·rcases k2 b e' with e2 | e2
   ·exact h.off b e (.inr e2)
   ·omega
theorem PQ.heap {os' : List Ob} (h : PQ B g gn N F W vL ls vN nm v n ws wr) (k : RPost B g N vL ls wr os' w') : ∃ vL' ls',ls'.map Prod.fst = os' /\ PQ B g gn N F W vL' ls' vN nm v n ws w':=by
 obtain ⟨vL2,ls2,k1,k2,k3,k4⟩:=k
 have hs:=h.mod.size
 refine ⟨vL2,ls2,k2,⟨k1,h.hn.names.keep (fun b e=>k4.block b (h.hn.names.ge b e).2 (fun e'=>h.hn.apart b e' e)),fun b e e'=>?_⟩,fun b e=>?_,h.mod.trans k4 (fun b hb e=>?_),own_at h.row (fun b e=>k4.block b (h.row.lt b e).2 (fun e'=>h.off b e (.inl e'))),fun b e e'=>?_⟩
 ·rcases k3 b e with e2 | e2
  ·exact h.hn.apart b e2 e'
  ·have:=(h.hn.names.ge b e').2;omega
 ·rcases e with e | e
  ·rcases k3 b e with e2 | e2
   ·exact h.foot b (.inl e2)
   ·exact .inr (by omega)
  ·exact h.foot b (.inr e)
 ·rcases h.foot b (.inl e) with e2 | e2
  ·exact e2
  ·omega
 ·have hl := (h.row.lt b e).2
  rcases e' with e' | e'
  ·rcases k3 b e' with e2 | e2
   ·exact h.off b e (.inl e2)
   ·omega
  ·exact h.off b e (.inr e')
theorem PQ.push {ws' : List Int} {g1 cap : Nat} (h : PQ B g gn N F W vL ls vN nm v n ws wr) (ho : w'.ownsRow W.heap.size 44 1 (.slice (some ⟨g1,0,none⟩) (n + 1) cap) (n + 1) (uz ws')) (hg : wr.grownBy w' v.ownBlock) (hl : v.ownBlock = some g1 \/ g1 = wr.heap.size) :
  PQ B g gn N F W vL ls vN nm (.slice (some ⟨g1,0,none⟩) (n + 1) cap) (n + 1) ws' w':=by
 have hk : ∀ b,HNF g vL ls gn vN b -> w'.heap[b]? = wr.heap[b]?:=fun b e=>hg.block b (h.hn.ge b e).2 (fun e'=>h.off b e'.symm e)
 refine ⟨⟨h.hn.heap.keep (fun b e=>hk b (.inl e)),h.hn.names.keep (fun b e=>hk b (.inr e)),h.hn.apart⟩,h.foot,h.mod.grown hg (fun k e=>.inr (h.row.lt k e).1),ho,fun b e e'=>?_⟩
 have e2 : g1 = b:=Option.some.inj e
 rcases hl with hl | hl
 ·exact h.off b (by rw [hl,e2]) e'
 ·have:=(h.hn.ge b e').2;omega
end
theorem size_zero {d : Nd} (h : CNd d) (hz : sizeN d = 0) : d.kind = 1 \/ d.kind = 2 \/ d.kind = 4 \/ d.kind = 6 \/ d.kind = 10 \/ d.kind = 11 \/ d.kind = 3 /\ printedB d.text = true /\ fixB (txZ d.text) = true:=by
 by_cases h1 : d.kind = 1 \/ d.kind = 2 \/ d.kind = 4 \/ d.kind = 6 \/ d.kind = 10 \/ d.kind = 11
 ·omega
 unfold sizeN at hz
 rw [if_neg h1] at hz
 by_cases h3 : d.kind = 3
 ·rw [if_pos h3] at hz
  by_cases hf : fixB (txZ d.text) = true
  ·exact .inr (.inr (.inr (.inr (.inr (.inr ⟨h3,h.int_ h3,hf⟩)))))
  ·rw [if_neg hf] at hz;omega
 rw [if_neg h3] at hz
 split at hz
 ·omega
 split at hz
 ·omega
 split at hz <;> omega
theorem sumN_app (a b : List Nd) : sumN (a ++ b) = sumN a + sumN b:=by simp [sumN,List.sum_append]
theorem sumN_nonneg : ∀ {l : List Nd},(∀ d∈l,0 <= sizeN d) -> 0 <= sumN l
 | [],_=>by simp [sumN]
 | d :: l,h=>by
  have h1:=h d (by simp)
  have h2:=sumN_nonneg (l:=l) (fun x hx=>h x (by simp [hx]))
  have : sumN (d :: l) = sizeN d + sumN l:=by simp [sumN]
  omega
theorem sumN_le {l : List Nd} (h : l.all (fun d=>decide (0 <= sizeN d)) = true) (q : Nat) : 0 <= sumN (l.take q) /\ sumN (l.take q) <= sumN l:=by
 have h0 : ∀ d∈l,0 <= sizeN d:=fun d hd=>of_decide_eq_true (List.all_eq_true.1 h d hd)
 have e:=sumN_app (l.take q) (l.drop q)
 rw [List.take_append_drop] at e
 have h1:=sumN_nonneg (l:=l.take q) (fun d hd=>h0 d (List.mem_of_mem_take hd))
 have h2:=sumN_nonneg (l:=l.drop q) (fun d hd=>h0 d (List.mem_of_mem_drop hd))
 omega
end Go.Proofs.YticimejfjjmikaaGreatDoor
