import Derived.Test.YticimejfjjmikaaGreatDoorSL3
import Derived.Test.YticimejfjjmikaaGreatDoorW40
import Derived.Test.YticimejfjjmikaaGreatDoorV5
import Derived.Test.YticimejfjjmikaaGreatDoorST6
import Derived.Test.YticimejfjjmikaaGreatDoorSL32
import Derived.Deep.QuietTactic
import Derived.BigQuiet
import Derived.Test.YticimejfjjmikaaGreatDoorSG4
import Derived.Test.YticimejfjjmikaaGreatDoorSL1
import Derived.Test.YticimejfjjmikaaGreatDoorSL14
import Derived.Test.YticimejfjjmikaaGreatDoorSL35
import Derived.Test.YticimejfjjmikaaGreatDoorW20
import Derived.Test.YticimejfjjmikaaGreatDoorC2
import Derived.Test.YticimejfjjmikaaGreatDoorSG2
import Derived.Test.YticimejfjjmikaaGreatDoorST11
import Derived.Test.YticimejfjjmikaaGreatDoorSG6
import Derived.Test.YticimejfjjmikaaGreatDoorSL13
set_option linter.unusedVariables false
set_option linter.unusedSimpArgs false
namespace Go.Proofs.YticimejfjjmikaaGreatDoor
open Go.RowKit
section
variable {N : Int} {os : List Ob} {nm : List ByteArray} {ns cs : List Nd} {rs crs : List Int}
structure zfj1 (N : Int) (os : List Ob) (nm : List ByteArray) (ns : List Nd) (rs : List Int) : Prop where
 ok : fz N os nm (zg ns rs).1
 good : yx ns rs = true
 goodC : yx (zg ns rs).1 (zg ns rs).2 = true
 ord : zvd (zg ns rs).1 (zg ns rs).2
 fineC : Fine (zg ns rs).1 (zg ns rs).2 300001
 again : yj (zg ns rs).1 (zg ns rs).2 300001 = zg ns rs
 len : (zg ns rs).1.length <= ns.length /\ (zg ns rs).2.length = rs.length
 small : ∀ d∈(zg ns rs).1,d.text.size <= 2000 /\ d.kids.length <= 100
 words : (putR N os nm ns rs).1 = pR nm os (zg ns rs).1 (zg ns rs).2
 objs : (putR N os nm ns rs).2.2.1 = pO nm os (zg ns rs).1
 names : (putR N os nm ns rs).2.2.2 = (putS nm (zc os) (zg ns rs).1).nm
 need : vk ns rs = sumN (zg ns rs).1
theorem zjt (h : (putR N os nm ns rs).2.1 = 0) (hs : qj ns) (hk : ∀ d∈ns,d.kids.length <= 100) (hn : ns.length <= 100) (hN : N <= 4194304) (hnm : nm.length <= 900000) : zfj1 N os nm ns rs:=by
 have hneg : ¬ vk ns rs < 0:=fun e=>by
  unfold putR at h;rw [if_pos e] at h;exact absurd (show (20 : Int) = 0 from h) (by decide)
 have hroom : ¬ N - (zc os : Nat) < vk ns rs:=fun e=>by
  unfold putR at h;rw [if_neg hneg,if_pos e] at h;exact absurd (show (3 : Int) = 0 from h) (by decide)
 obtain ⟨hg,hsz,hsum⟩:=zme hneg
 have hF : Fine ns rs 300001:=⟨hg,hk,by omega,by omega⟩
 have hgc : yx (zg ns rs).1 (zg ns rs).2 = true:=hF.goodC
 have hlen:=hF.len
 have hsm:=hF.smallC hs
 have hkc:=hF.kidsC
 have hFc : Fine (zg ns rs).1 (zg ns rs).2 300001:=⟨hgc,hkc,by have:=hlen.1;show (zg ns rs).1.length <= 2500;unfold zg;omega,by have:=hlen.1;show 1 + 100 * (zg ns rs).1.length <= 300001;unfold zg;omega⟩
 have hok : fz N os nm (zg ns rs).1:=⟨zca hgc,fun d hd=>CNd.of (zca hgc d hd) (hsm d hd) (hkc d hd),hsz,by omega,hN,by have:=hlen.1;show nm.length + (zg ns rs).1.length <= _;unfold zg;omega⟩
 have hput : putR N os nm ns rs = ((zg ns rs).2.map (fun i : Int=>(putS nm (zc os) (zg ns rs).1).ws.getD i.toNat 0),0,putO N (putS nm (zc os) (zg ns rs).1).ws os (zg ns rs).1,(putS nm (zc os) (zg ns rs).1).nm):=by
  unfold putR;rw [if_neg hneg,if_neg hroom]
 exact ⟨hok,hg,hgc,hF.ordered,hFc,hF.again,hlen,fun d hd=>⟨hsm d hd,hkc d hd⟩,by rw [hput],by rw [hput];exact hok.objs,by rw [hput],hsum⟩
theorem zgx (h : (putR N os nm ns rs).2.1 ≠ 0) : (putR N os nm ns rs).1 = [] /\ (putR N os nm ns rs).2.2.1 = os /\ (putR N os nm ns rs).2.2.2 = nm /\ ((putR N os nm ns rs).2.1 = 20 ↔ vk ns rs < 0):=by
 unfold putR at *
 by_cases h1 : vk ns rs < 0
 ·rw [if_pos h1];exact ⟨rfl,rfl,rfl,fun _=>h1,fun _=>rfl⟩
 ·rw [if_neg h1] at h ⊢
  by_cases h2 : N - (zc os : Nat) < vk ns rs
  ·rw [if_pos h2];exact ⟨rfl,rfl,rfl,fun e=>absurd (show (3 : Int) = 20 from e) (by decide),fun e=>absurd e h1⟩
  ·rw [if_neg h2] at h;exact absurd rfl h
end
set_option maxRecDepth 100000
theorem zqp : ∀ (f k v : Nat),v < 10 ^ k -> (digs f v).length <= k
 | 0,k,v,_=>by simp [digs]
 | f + 1, k, v, h => by
  unfold digs
  split
  ·simp
  ·rename_i hv
   cases k with
   | zero=>simp at h;omega
   | succ k =>
    have:=zqp f k (v / 10) (by rw [Nat.pow_succ] at h;omega)
    simp;omega
theorem ztd {v k : Nat} (neg : Bool) (h : v < 10 ^ k) : (qs neg v).length <= k + 1:=by
 have:=zqp v k v h
 unfold qs
 split
 ·simp
 ·cases neg <;> simp <;> omega
theorem zop (l : List Nat) : (jn l).size = l.length:=by
 show (l.map UInt8.ofNat).toArray.size = l.length
 simp
theorem zfk1 : B32 ^ 40 < 10 ^ 400:=by decide +kernel
theorem zte (f : List Int) : (f6 f).kids = [] /\ (f6 f).text.size <= 2000 /\ (f6 f).kind = (if bigB f = true then 3 else 11):=by
 unfold f6
 by_cases h : bigB f = true
 ·rw [if_pos h, if_pos h]
  refine ⟨rfl,?_,rfl⟩
  unfold bigB at h
  simp only [Bool.and_eq_true,List.all_eq_true] at h
  obtain ⟨_,h2,_,h4,_⟩:=h
  have hl : (jp f).length <= 40:=by
   unfold jz at h4
   simp only [Bool.or_eq_true,Bool.and_eq_true,decide_eq_true_eq] at h4
   omega
  have hd : Dg B32 (jp f):=fun x hx=>by
   unfold jp at hx
   obtain ⟨y,hy,rfl⟩:=List.mem_map.1 hx
   have:=h2 y (List.mem_of_mem_drop hy)
   unfold ks at this
   simp only [Bool.and_eq_true,decide_eq_true_eq] at this
   show (nN y).toNat < 4294967296
   omega
  show (jn (qs (kt f) (val B32 (jp f)))).size <= 2000
  rw [zop]
  have hv : val B32 (jp f) < 10 ^ 400:=by
   have h1:=zaa hd
   have h2 : B32 ^ (jp f).length <= B32 ^ 40:=Nat.pow_le_pow_right (by decide) hl
   have h3:=zfk1
   exact Nat.lt_of_lt_of_le (Nat.lt_of_lt_of_le h1 h2) (Nat.le_of_lt h3)
  have:=ztd (kt f) hv
  omega
 ·rw [if_neg h, if_neg h]
  exact ⟨rfl,by decide,rfl⟩
theorem zxv {d : Nd} (hk : d.kids = []) (hg : yx [d] [0] = true) (f : Nat) : yj [d] [0] (f + 2) = ([d],[0]):=by
 have hm : jx [d] [-1] [] 0 = ([0],[0]):=by
  unfold jx
  split
  ·rfl
  ·rfl
 have e1 : yg [d] (f + 2) [0] (start 1) = ([0],[0]):=by
  show zk [d] (f + 2) [0] [-1] [] = _
  rw [zk,if_neg (by decide)]
  show zk [d] (f + 1) (d.kids ++ []) (jx [d] [-1] [] 0).1 (jx [d] [-1] [] 0).2 = _
  rw [hm,hk]
  rfl
 unfold yj
 rw [if_pos hg]
 show ((yg [d] (f + 2) [0] (start 1)).2.map (jt [d] (yg [d] (f + 2) [0] (start 1)).1),jm (yg [d] (f + 2) [0] (start 1)).1 [0]) = _
 rw [e1]
 have e2 : jt [d] [0] 0 = d:=zhi rfl rfl rfl (by show jm [0] d.kids = d.kids;rw [hk];rfl)
 show ([jt [d] [0] 0],[0]) = _
 rw [e2]
theorem zbo1 {D : Int -> Nd} {a : Int} {W rs : List Int} {ns : List Nd} (hok : ∀ x,okD (D x) = true) (hk : (D a).kids = []) (T : Told D [a] W ns rs) (F : Fine ns rs 300001) : zg ns rs = ([D a],[0]):=by
 have hr : ∀ x,Rch D [a] x -> x = a:=fun x h=>by
  induction h with
  | root hm=>exact List.mem_singleton.1 hm
  | @kid x y _ hy ih=>rw [ih,hk] at hy;cases hy
 have T1 : Told D [a] [a] [D a] [0]:=by
  have h0 : ∀ i,i < [D a].length -> i = 0:=fun i hi=>by simp at hi;omega
  refine ⟨rfl,fun i hi=>?_,fun i hi=>?_,fun i hi=>?_,rfl,fun k hk=>?_,fun i j hi hj _=>.inl ?_⟩
  ·obtain rfl:=h0 i hi;exact ⟨rfl,rfl,rfl⟩
  ·obtain rfl:=h0 i hi;show (D a).kids.map _ = (D a).kids;rw [hk];rfl
  ·obtain rfl:=h0 i hi;intro k hk';have : k∈(D a).kids:=hk';rw [hk] at this;cases this
  ·obtain rfl:=List.mem_singleton.1 hk;simp
  ·rw [h0 i hi,h0 j hj]
 have F1 : Fine [D a] [0] 300001:=⟨T1.good (fun x _=>hok x),fun d hd=>by obtain rfl:=List.mem_singleton.1 hd;rw [hk];exact Nat.zero_le _,by simp,by simp⟩
 have e:=zaq1 (ψ:=id) T T1 (by simp) hok (fun x hx=>⟨⟨rfl,rfl,rfl⟩,by simp⟩) (fun x y hx hy e=>.inl e) (fun x hx _=>by rw [hr x hx];exact hk) F F1
 unfold zg
 rw [e]
 exact zxv hk F1.good 299999
section
variable {B : Nat} {v : Value} {N : Int} {os : List Ob} {F : Nat -> Prop}
theorem zxw (a : Int) (ha : U64 a) (w : World) (h : HE B v N os F w) (hT : vx w) {k : Nat} (hf : zr os a = some k) (h5 : (os.getD k default).kind = 5) (g : Nat) (hg : w.heap[g]? = some (.cells #[.int .u64 a] 44 (0,0))) :
  Calls Tryz.prog 11 #[v,.pointer none,.slice (some ⟨g,0,none⟩) 1 1] w fun e w'=>∃ b o n1 c1 a2 n2 c2,e = .returned (.agg #[.slice (some ⟨b,o,none⟩) n1 c1,.slice a2 n2 c2]) /\ 0 < n1 /\ n1 <= c1 /\ c1 <= maxLen /\ w'.cell? ⟨b,o,none⟩ = some (.int .i64 (if bigB (os.getD k default).f = true then 3 else 11)) /\ Below w.heap.size w w':=by
 obtain ⟨gh,rfl⟩:=h.ph.ptr
 have hd : zrt os [] a = f6 (os.getD k default).f:=by unfold zrt;rw [hf];simp only;rw [h5];rfl
 obtain ⟨s1,s2,s3⟩:=zte (os.getD k default).f
 have hr : ∀ x,Rch (zrt os []) [a] x -> x∈[a]:=fun x hx=>by
  induction hx with
  | root hm=>exact hm
  | @kid x y _ hy ih=>rw [List.mem_singleton.1 ih,hd,s1] at hy;cases hy
 refine (zxt (op:=none) (zrt os []) (zwu os []) (some ⟨g,0,none⟩) 1 1 [a] w (qp hg ha) [a] hr (by simp) (fun x hx=>by obtain rfl:=List.mem_singleton.1 hx;rw [hd,s1];exact ⟨by simp,s2⟩) (by omega) hT (fun wr x gs hx hu hb hs=>by obtain rfl:=List.mem_singleton.1 hx;rw [hd];exact zbj1 x hu wr (h.on hb) hs hf h5)).mono ?_
 rintro e w' ⟨a1,n1,c1,a2,n2,c2,W,ns,rs,rfl,hT1,hF,hG,_,hb⟩
 have hc:=zbo1 (zwu os []) (by rw [hd];exact s1) hT1 hF
 rw [hc] at hG
 have hl:=hG.nodes.len
 have hl1 : n1 = 1:=by simpa using hl.symm
 subst hl1
 obtain ⟨b,o,rfl,_,hcc⟩:=hG.nodes.some (by omega)
 obtain ⟨c0,_⟩:=hcc 0 (by simp)
 refine ⟨b,o,1,c1,a2,n2,c2,rfl,by omega,hG.nodes.fits,hG.nodes.most,?_,hb⟩
 rw [<- s3,<- hd]
 simpa using c0
set_option maxHeartbeats 4000000 in
theorem zie (a b : Int) (ha : U64 a) (hb : U64 b) (w : World) (h : HE B v N os F w) (hT : vx w) : Calls Tryz.prog 52 #[v,.int .u64 a,.int .u64 b] w fun e w'=>e = .returned (.bool (zbs os a b)) /\ Below w.heap.size w w':=by
 have C:=hid (zge a b ha hb w h)
 have HSI : Hid (∀ i k,zr os a = some i -> zr os b = some k -> zbs os a b = zen os i k):=fun i k h1 h2=>by unfold zbs;rw [h1,h2]
 by_cases h5 : stM os a b = 5
 ·unfold stM zbn at h5
  cases hi : zr os a with
  | none=>rw [hi] at h5;simp only at h5;split at h5 <;> omega
  | some i =>
   cases hk : zr os b with
   | none =>
    rw [hi,hk] at h5
    simp only at h5
    have:=h.fine.kd _ (yi (yc hi).1)
    rw [if_neg (by omega)] at h5
    omega
   | some k =>
    rw [hi,hk] at h5
    simp only at h5
    have h5' : (os.getD i default).kind = 5 /\ (os.getD k default).kind = 5:=by
     split at h5
     ·rename_i e;exact ⟨h5,by rw [<- e];exact h5⟩
     ·omega
    have hst : stM os a b = 5:=by unfold stM zbn;rw [hi,hk];simp only;rw [h5'.1,h5'.2];rfl
    rw [hst] at C
    have CF : Hid (∀ W,Below w.heap.size w W -> _):=fun W hW=>zhp a b ha hb W (h.on hW) hi hk
    have CS : Hid (∀ W,Below w.heap.size w W -> Calls Tryz.prog 11 #[v,.pointer none,.slice (some ⟨W.heap.size,0,none⟩) 1 1] (W.alloc (.cells #[.int .u64 a] 44)) fun e w'=>∃ b o n1 c1 a2 n2 c2,e = .returned (.agg #[.slice (some ⟨b,o,none⟩) n1 c1,.slice a2 n2 c2]) /\ 0 < n1 /\ n1 <= c1 /\ c1 <= maxLen /\ w'.cell? ⟨b,o,none⟩ = some (.int .i64 (if bigB (os.getD i default).f = true then 3 else 11)) /\ Below w.heap.size w w'):=fun W hW=>by
     have hb1:=Bt hW (Ba W (.cells #[.int .u64 a] 44))
     refine (zxw a ha _ (h.on hb1) (hT.below hb1) hi h5'.1 W.heap.size (zd _ _ _)).mono ?_
     rintro e w' ⟨b,o,n1,c1,a2,n2,c2,h1,h2,h3,h4,h6,h7⟩
     exact ⟨b,o,n1,c1,a2,n2,c2,h1,h2,h3,h4,h6,hb1.trans (h7.mono hb1.size)⟩
    obtain ⟨gh,rfl⟩:=h.ph.ptr
    rw [HSI.out i k hi hk]
    unfold zen
    rw [decide_eq_true h5'.1,decide_eq_true h5'.2]
    obtain ⟨b1,hb1⟩ : ∃ x,x = decide ((os.getD i default).f = (os.getD k default).f):=⟨_,rfl⟩
    obtain ⟨b2,hb2⟩ : ∃ x,x = bigB (os.getD i default).f:=⟨_,rfl⟩
    rw [<- hb1] at CF
    rw [<- hb2] at CS
    rw [<- hb1,<- hb2]
    clear h hi hk ha hb hT h5 h5' hst hb1 hb2
    cases b1
    ·go_enter Tryz.func52, Tryz.ntmps52
     go_wp2_with (first
      | (go_at_call 95;(with_reducible refine C.out.mono ?_);rintro e W1 ⟨rfl,b1⟩;have HB1:=hid b1;have C2:=hid (CF.out W1 b1);clear b1)
      | (go_at_call 96;(with_reducible refine C2.out.mono ?_);rintro e W2 ⟨rfl,b2⟩;have HB2:=hid (HB1.out.trans (b2.mono HB1.out.size));clear b2))
     go_ret
     exact ⟨rfl,HB2.out⟩
    ·cases b2
     all_goals
      simp only [if_true,if_false,Bool.false_eq_true] at CS
      unfold maxLen at CS
      have hfd : ∀ bx ox n1 c1 a2 n2 c2 wx,(Instr.field 34 (.agg #[.slice (some ⟨bx,ox,none⟩) n1 c1,.slice a2 n2 c2]) 0).run Tryz.prog wx = .ok (.slice (some ⟨bx,ox,none⟩) n1 c1) wx:=fun _ _ _ _ _ _ _ _=>rfl
      go_enter Tryz.func52,Tryz.ntmps52
      go_wp2_with (first
       | (go_at_call 95;(with_reducible refine C.out.mono ?_);rintro e W1 ⟨rfl,b1⟩;have HB1:=hid b1;have C2:=hid (CF.out W1 b1);clear b1)
       | (go_at_call 96;(with_reducible refine C2.out.mono ?_);rintro e W2 ⟨rfl,b2⟩;have HB2:=hid (HB1.out.trans (b2.mono HB1.out.size));have C3:=hid (CS.out W2 HB2.out);clear b2)
       | (go_at_call 11;(with_reducible refine C3.out.mono ?_);rintro e W3 ⟨bx,ox,n1,c1,a2,n2,c2,rfl,g1,g2,g3,g4,b3⟩;have HB3:=hid b3;clear b3))
      go_ret
      exact ⟨rfl,HB3.out⟩
 ·have hfin : zbs os a b = false := by
   unfold zbs
   cases hi : zr os a with
   | none=>rfl
   | some i =>
    cases hk : zr os b with
    | none=>rfl
    | some k =>
     simp only [zen]
     unfold stM zbn at h5
     rw [hi,hk] at h5
     simp only at h5
     by_cases e1 : (os.getD i default).kind = 5
     ·by_cases e2 : (os.getD k default).kind = 5
      ·rw [e1,e2] at h5;exact absurd rfl h5
      ·rw [decide_eq_false e2,Bool.false_and,Bool.and_false]
     ·rw [decide_eq_false e1,Bool.false_and]
  rw [hfin]
  obtain ⟨gh,rfl⟩:=h.ph.ptr
  obtain ⟨st,hst⟩ : ∃ x,x = stM os a b:=⟨_,rfl⟩
  rw [<- hst] at C h5
  have e0 : (st != 5) = true:=by simp [h5]
  clear h ha hb hT h5 hst hfin
  go_enter Tryz.func52,Tryz.ntmps52
  go_wp2_with (go_at_call 95;(with_reducible refine C.out.mono ?_);rintro e W1 ⟨rfl,b1⟩;have HB1:=hid b1;clear b1)
  go_ret
  exact ⟨rfl,HB1.out⟩
theorem zex (a b : Int) (ha : U64 a) (hb : U64 b) (w : World) (h : HE B v N os F w) (hT : vx w) : Calls Tryz.prog 20 #[v,.int .u64 a,.int .u64 b] w fun e w'=>e = .returned (.bool (eqvB os a b)) /\ Below w.heap.size w w':=by
 have C:=hid (zie a b ha hb w h hT)
 unfold eqvB
 obtain ⟨gh,rfl⟩:=h.ph.ptr
 obtain ⟨bb,hbb⟩ : ∃ x,x = (zbs os a b):=⟨_,rfl⟩
 rw [<- hbb] at C ⊢
 clear h ha hb hT hbb
 by_cases e : a = b
 ·have e1 : (a == b) = true := by simp [e]
  rw [decide_eq_true e]
  clear e
  go_enter Tryz.func20,Tryz.ntmps20
  go_wp2_with fail
  go_ret
  exact ⟨rfl,Below.refl _ _⟩
 ·have e1 : (a == b) = false := by simp [e]
  rw [decide_eq_false e]
  clear e
  go_enter Tryz.func20,Tryz.ntmps20
  go_wp2_with (go_at_call 52;(with_reducible refine C.out.mono ?_);rintro e W1 ⟨rfl,b1⟩;have HB1:=hid b1;clear b1)
  go_ret
  exact ⟨rfl,HB1.out⟩
end
def TxOk (os : List Ob) : Prop:=∀ x∈os,x.kind = 3 \/ x.kind = 4 -> ∀ z∈x.f,nK z ≠ 2
theorem zxx {os : List Ob} {x y : Int} (hx : nK x ≠ 2) (h : ja (hpO os) x y) : x = y:=by
 rcases kw x y h with (h | ⟨f,h1,_⟩) | ⟨k,f,g,h1,_⟩
 ·exact h
 ·rw [zcc (zcz hx)] at h1;cases h1
 ·rw [zcc (zcz hx)] at h1;cases h1
theorem zju {f g : List Int} (hl : f.length = g.length) (h : ∀ j,j < f.length -> f.getD j 0 = g.getD j 0) : f = g:=by
 apply List.ext_getElem hl
 intro i h1 h2
 have:=h i h1
 rw [List.getD_eq_getElem?_getD,List.getElem?_eq_getElem h1,List.getD_eq_getElem?_getD,List.getElem?_eq_getElem h2] at this
 exact this
theorem ztf {os : List Ob} (hT : TxOk os) {x y : Int} {i k : Nat} (hi : zr os x = some i) (hk : zr os y = some k) (h3 : (os.getD i default).kind = 3 \/ (os.getD i default).kind = 4) (hne : x ≠ y) (h : ja (hpO os) x y) : (os.getD i default).f = (os.getD k default).f:=by
 rcases kw x y h with (h | ⟨f,h1,_⟩) | ⟨kd,f,g,h1,h2,_,h4,h5⟩
 ·exact absurd h hne
 ·rw [qq hi] at h1
  injection h1 with h1
  injection h1 with h1 _
  omega
 ·rw [qq hi] at h1
  rw [qq hk] at h2
  injection h1 with h1
  injection h1 with _ h1
  injection h2 with h2
  injection h2 with _ h2
  subst h1 h2
  refine zju h4 (fun j hj=>zxx (hT _ (yi (yc hi).1) h3 _ (zq hj)) (h5 j hj))
theorem zmq {os : List Ob} {x y : Int} {i k : Nat} (hi : zr os x = some i) (hk : zr os y = some k) (h3 : (os.getD i default).kind <= 4) (h : ja (hpO os) x y) : ∀ j,j < (os.getD i default).f.length -> ja (hpO os) ((os.getD i default).f.getD j 0) ((os.getD k default).f.getD j 0):=by
 rcases kw x y h with (h | ⟨f,h1,_⟩) | ⟨kd,f,g,h1,h2,_,h4,h5⟩
 ·subst h
  rw [hi] at hk
  injection hk with hk
  subst hk
  exact fun j _=>ja.refl _
 ·rw [qq hi] at h1
  injection h1 with h1
  injection h1 with h1 _
  omega
 ·rw [qq hi] at h1
  rw [qq hk] at h2
  injection h1 with h1
  injection h1 with _ h1
  injection h2 with h2
  injection h2 with _ h2
  subst h1 h2
  exact h5
theorem zxy {os : List Ob} {x y : Int} {i k : Nat} (hi : zr os x = some i) (hk : zr os y = some k) (h3 : (os.getD i default).kind = 5) (hne : x ≠ y) (h : ja (hpO os) x y) : zen os i k = true:=by
 rcases kw x y h with (h | ⟨f,h1,h2,h4⟩) | ⟨kd,f,g,h1,h2,_,_,_⟩
 ·exact absurd h hne
 ·rw [qq hi] at h1
  rw [qq hk] at h2
  injection h1 with h1
  injection h1 with a1 a2
  injection h2 with h2
  injection h2 with b1 b2
  unfold zen
  rw [a1,b1,a2,b2,h4]
  simp
 ·rw [qq hi] at h1
  injection h1 with h1
  injection h1 with h1 _
  omega
def zxz (os : List Ob) (a0 b0 : Int) (M b : Nat) (w0 : World) (v : Value) (S : US) (x y : Int) (e : Ending) (w' : World) : Prop :=
 ∃ bb,e = .returned (.bool bb) /\ ∃ S',MZ os a0 b0 (fun r=>r = (x,y)) M b w0 v S' w' /\ (∀ u z,S.root u = S.root z -> S'.root u = S'.root z) /\ (bb = true -> Done (hpO os) S'.root x y) /\ (bb = false -> ¬ ja (hpO os) x y)
section
variable {B : Nat} {v : Value} {N : Int} {os : List Ob} {F : Nat -> Prop} {a0 b0 : Int} {M : Nat} {w0 : World} {S : US}
set_option maxHeartbeats 8000000 in
theorem zfl1 (x y : Int) (w : World) (h0 : HE B v N os F w0) (hT : vx w0) (hX : TxOk os) (h : MZ os a0 b0 (fun r=>r = (x,y)) M w0.heap.size w0 v S w) (hm : May (hpO os) x y) (hx : U64 x) (hy : U64 y) (hne : x ≠ y) (hal : ja (hpO os) a0 b0 -> ja (hpO os) x y) (hMM : M <= 10000000) :
  Calls Tryz.prog 57 #[.pointer (some ⟨w0.heap.size + 2,0,none⟩),.agg #[.int .u64 x,.int .u64 y]] w (zxz os a0 b0 M w0.heap.size w0 v S x y):=by
 obtain ⟨kd,f,g,hf,hg,hkd⟩:=hm
 obtain ⟨i,hi,i1,i2⟩:=zlf hf
 obtain ⟨k,hk,k1,k2⟩:=zlf hg
 have hst : stM os x y = kd:=by unfold stM zbn;rw [hi,hk];simp only;rw [i1,k1,if_pos rfl]
 have hz:=h.on (Ba w (.cells #[.int .u64 x,.int .u64 y] 115))
 have hbx:=zd w #[.int .u64 x,.int .u64 y] 115
 obtain ⟨W1,hW1⟩ : ∃ W,W = w.alloc (.cells #[.int .u64 x,.int .u64 y] 115):=⟨_,rfl⟩
 rw [<- hW1] at hz hbx
 have hbw : Below w0.heap.size w0 W1.drew:=hz.mt.bel.trans ((Bd W1 1).mono (by have:=hz.mt.lt;omega))
 have HZ : Hid (MZ os a0 b0 (fun r=>r = (x,y)) M w0.heap.size w0 v S W1.drew):=hz.on (Bd W1 1)
 have CT : Hid (∀ W,Below w0.heap.size w0 W -> _):=fun W hW=>zge x y hx hy W (h0.on hW)
 have CI : Hid (∀ W,Below w0.heap.size w0 W -> _):=fun W hW=>zie x y hx hy W (h0.on hW) (hT.below hW)
 have CF : Hid (∀ W,Below w0.heap.size w0 W -> _):=fun W hW=>zhp x y hx hy W (h0.on hW) hi hk
 have CA : Hid (∀ W S',(os.getD i default).kind <= 4 -> f.length = g.length -> MZ os a0 b0 (fun r=>r = (x,y)) M w0.heap.size w0 v S' W -> _):=fun W S' h4 hl hz'=>zsb x y hx hy W h0 hz' hi hk (by rw [i2,k2];exact hl) (zmq hi hk h4) hal hMM
 rw [hst] at CT
 have HSI : Hid (zbs os x y = zen os i k):=by unfold Hid zbs;rw [hi,hk]
 rw [HSI.out] at CI
 have p0 : W1.cell? ⟨w.heap.size,0,none⟩ = some (.int .u64 x):=za hbx 0
 have p1 : W1.cell? ⟨w.heap.size,1,none⟩ = some (.int .u64 y):=za hbx 1
 have c0 : ∀ W,Below W1.drew.heap.size W1.drew W -> W.cell? ⟨w0.heap.size + 2,0,none⟩ = some v:=fun W hb=>za (HZ.out.on hb).mt.box 0
 have HC0:=hid c0
 have c00:=c0 _ (Below.refl _ _)
 have HBW:=hid hbw
 have FINA : Hid (∀ W e,(1 <= kd /\ kd <= 4) -> f.length = g.length -> zgv1 os a0 b0 (fun r=>r = (x,y)) M w0.heap.size w0 v S (os.getD i default).f (os.getD k default).f x y e W -> zxz os a0 b0 M w0.heap.size w0 v S x y e W):=fun W e h4 hl=>by
  rintro ⟨bb,rfl,S',q1,q2,q3,q4⟩
  exact ⟨bb,rfl,S',q1,q2,fun e=>⟨kd,f,g,hf,hg,.inr ⟨h4,hl,fun j hj=>by have:=q3 e j (by rw [i2];exact hj);rw [i2,k2] at this;exact this⟩⟩,q4⟩
 have FINI : Hid (kd = 5 -> ∀ W,Below W1.drew.heap.size W1.drew W -> zxz os a0 b0 M w0.heap.size w0 v S x y (.returned (.bool (zen os i k))) W):=fun h5 W hb=>by
  refine ⟨_,rfl,S,HZ.out.on hb,fun _ _ e=>e,fun e=>?_,fun e ha=>?_⟩
  ·unfold zen at e
   simp only [Bool.and_eq_true,decide_eq_true_eq] at e
   refine ⟨kd,f,g,hf,hg,.inl ⟨h5,by rw [<- i2,<- k2];exact e.2.2.1,by rw [<- i2];exact e.2.2.2⟩⟩
  ·have := zxy hi hk (by rw [i1]; exact h5) hne ha
   rw [e] at this;cases this
 have FINF : Hid (kd = 3 \/ kd = 4 -> ∀ W,Below W1.drew.heap.size W1.drew W -> zxz os a0 b0 M w0.heap.size w0 v S x y (.returned (.bool (decide ((os.getD i default).f = (os.getD k default).f)))) W):=fun h34 W hb=>by
  refine ⟨_,rfl,S,HZ.out.on hb,fun _ _ e=>e,fun e=>?_,fun e ha=>?_⟩
  ·have e := of_decide_eq_true e
   rw [i2,k2] at e
   subst e
   exact ⟨kd,f,f,hf,hg,.inr ⟨by omega,rfl,fun j _=>rfl⟩⟩
  ·exact of_decide_eq_false e (ztf hX hi hk (by rw [i1];exact h34) hne ha)
 obtain ⟨gh,rfl⟩:=h0.ph.ptr
 obtain ⟨bi,hbi⟩ : ∃ b,b = zen os i k:=⟨_,rfl⟩
 obtain ⟨bf,hbf⟩ : ∃ b,b = decide ((os.getD i default).f = (os.getD k default).f):=⟨_,rfl⟩
 rw [<- hbi] at CI FINI
 rw [<- hbf] at CF FINF
 obtain ⟨bA,hbA⟩ : ∃ b,b = w0.heap.size:=⟨_,rfl⟩
 rw [<- hbA] at HZ CT CI CF CA HBW FINA FINI FINF HC0 c00 ⊢
 rw [hW1] at p0 p1 c00 HZ HBW FINI FINF HC0
 have hA4 : Hid ((os.getD i default).kind <= 4 ↔ kd <= 4):=by unfold Hid;rw [i1]
 clear h h0 hT hX hf hg hx hy hne hal hi i1 i2 hk k1 k2 hst hz hbx hbw HSI c0 hbi hbf hbA
 go_enter Tryz.func57,Tryz.ntmps57
 go_wp2_with fail
 go_region
 obtain ⟨W2,hW2⟩ : ∃ W,W = (w.alloc (.cells #[.int .u64 x,.int .u64 y] 115)).drew:=⟨_,rfl⟩
 rw [<- hW2] at HZ HBW FINI FINF HC0 ⊢
 have c2:=HC0.out W2 (Below.refl _ _)
 have HBX : Hid (∀ W,Below W2.heap.size W2 W -> Below bA w0 W):=fun W hb=>HBW.out.trans (hb.mono (by have:=HZ.out.mt.lt;omega))
 have C1:=hid (CT.out W2 HBW.out)
 clear p0 p1 c00 hW1 hW2 CT
 rcases hkd with h5 | ⟨h4,hl⟩
 ·have F1 := hid (FINI.out h5)
  subst h5
  clear FINI FINF FINA CA CF hA4
  go_wp2_with (first
   | (go_at_call 95;(with_reducible refine C1.out.mono ?_);rintro e W3 ⟨rfl,b3⟩;have HB3:=hid b3;have c3:=HC0.out W3 b3;have C2:=hid (CI.out W3 (HBX.out W3 b3));clear b3)
   | (go_at_call 52;(with_reducible refine C2.out.mono ?_);rintro e W4 ⟨rfl,b4⟩;have HB4:=hid (HB3.out.trans (b4.mono HB3.out.size));clear b4))
  go_ret
  exact F1.out _ HB4.out
 ·by_cases h2 : kd <= 2
  ·have h12 : kd = 1 \/ kd = 2 := by omega
   have C3:=hid (fun W S'=>CA.out W S' (hA4.out.2 h4.2) hl)
   have F1:=hid (fun W e=>FINA.out W e h4 hl)
   clear FINI FINF FINA CA CF CI hA4 h4 h2 hl
   rcases h12 with rfl | rfl
   all_goals
    go_wp2_with (first
     | (go_at_call 95;(with_reducible refine C1.out.mono ?_);rintro e W3 ⟨rfl,b3⟩;have HB3:=hid b3;have c3:=HC0.out W3 b3;have C2:=hid (C3.out W3 S (HZ.out.on b3));clear b3)
     | (go_at_call 103;(with_reducible refine C2.out.mono ?_);intro e W4 q4;obtain ⟨bb,rfl,q5⟩:=F1.out W4 e q4;have HQ:=hid q5;clear q4 q5))
    go_ret
    exact ⟨bb,rfl,HQ.out⟩
  ·have h34 : kd = 3 \/ kd = 4 := by omega
   have F1:=hid (FINF.out h34)
   clear FINI FINF FINA CA CI hA4 h4 h2 hl
   rcases h34 with rfl | rfl
   all_goals
    go_wp2_with (first
     | (go_at_call 95;(with_reducible refine C1.out.mono ?_);rintro e W3 ⟨rfl,b3⟩;have HB3:=hid b3;have c3:=HC0.out W3 b3;have C2:=hid (CF.out W3 (HBX.out W3 b3));clear b3)
     | (go_at_call 96;(with_reducible refine C2.out.mono ?_);rintro e W4 ⟨rfl,b4⟩;have HB4:=hid (HB3.out.trans (b4.mono HB3.out.size));clear b4))
    go_ret
    exact F1.out _ HB4.out
end
noncomputable def alikeB (os : List Ob) (a b : Int) : Bool:=@decide (ja (hpO os) a b) (Classical.propDecidable _)
theorem gy (os : List Ob) (a b : Int) : alikeB os a b = true ↔ ja (hpO os) a b:=by unfold alikeB;exact @decide_eq_true_iff _ (Classical.propDecidable _)
theorem zmr {os : List Ob} {a b : Int} (h : ¬ ja (hpO os) a b) : alikeB os a b = false:=by
 cases e : alikeB os a b
 ·rfl
 ·exact absurd ((gy os a b).1 e) h
section
variable {B : Nat} {v : Value} {N : Int} {os : List Ob} {F : Nat -> Prop}
set_option maxHeartbeats 8000000 in
theorem zbl (a b : Int) (ha : U64 a) (hb : U64 b) (w : World) (h : HE B v N os F w) (hT : vx w) (hX : TxOk os) : Calls Tryz.prog 22 #[v,.int .u64 a,.int .u64 b] w fun e w'=>e = .returned (.bool (alikeB os a b)) /\ Below w.heap.size w w':=by
 have hus:=h.used
 have hol:=zea1 os
 have hMM : 2 * os.length <= 10000000:=by omega
 obtain ⟨M,hM⟩ : ∃ M,M = 2 * os.length:=⟨_,rfl⟩
 have hmg:=MG.start os a b
 rw [<- hM] at hmg hMM
 have hmt:=MT.start w v
 obtain ⟨W1,hW1⟩ : ∃ W,W = ((w.alloc (.map #[] 0)).alloc (.map #[] 0)).alloc (.cells #[v,.map (some w.heap.size),.map (some (w.heap.size + 1)),.slice none 0 0] 113):=⟨_,rfl⟩
 rw [<- hW1] at hmt
 have CM : Hid (Calls Tryz.prog 56 #[.pointer (some ⟨w.heap.size + 2,0,none⟩),.int .u64 a,.int .u64 b] W1 (zed1 os a b (fun _=>False) M w.heap.size w v ⟨id,fun _=>0,fun _=>none,[],[],[],[],.slice none 0 0⟩ a b)):=zlu a b ha hb W1 h ⟨hmt,hmg⟩ id hMM
 have CF : Hid (∀ (M' : Nat) (S : US) (x y : Int) (W : World),M' <= 10000000 -> MZ os a b (fun r=>r = (x,y)) M' w.heap.size w v S W -> May (hpO os) x y -> U64 x -> U64 y -> x ≠ y -> (ja (hpO os) a b -> ja (hpO os) x y) -> Calls Tryz.prog 57 #[.pointer (some ⟨w.heap.size + 2,0,none⟩),.agg #[.int .u64 x,.int .u64 y]] W (zxz os a b M' w.heap.size w v S x y)):=fun M' S x y W h1 h2 h3 h4 h5 h6 h7=>zfl1 x y W h hT hX h2 h3 h4 h5 h6 h7 h1
 have hmm:=@run_makeMap Tryz.prog
 obtain ⟨gh,rfl⟩:=h.ph.ptr
 have HW1:=hid hW1
 clear h hT hX ha hb hus hol hM hmg hmt hW1
 go_enter Tryz.func22,Tryz.ntmps22
 go_wp2_with (go_at_call 56;rw [<- HW1.out];(with_reducible refine CM.out.mono ?_);rintro e W2 ⟨bb,rfl,S1,m2,k2,t2,n2⟩;have HZ2:=hid m2;have HT2:=hid t2;have HN2:=hid n2;clear m2 k2 t2 n2)
 clear hmm CM
 obtain ⟨bA,hbA⟩ : ∃ b,b = w.heap.size:=⟨_,rfl⟩
 rw [<- hbA] at HZ2 CF ⊢
 have HBA:=hid hbA
 clear hbA HW1
 go_loopg [8,9,10] (M + 1) (fun gk al _ _ wr=>∃ (bb : Bool) (M' : Nat),al = .bool bb /\ M' < gk /\ M' <= 10000000 /\ Hid ((bb = true -> ∃ S,MZ os a b (fun _=>False) M' bA w (.pointer (some ⟨gh,0,none⟩)) S wr /\ S.root a = S.root b) /\ (bb = false -> ¬ ja (hpO os) a b) /\ Below bA w wr))
 case atStart=>exact ⟨bb,M,rfl,by omega,hMM,fun e=>⟨S1,HZ2.out,HT2.out e⟩,HN2.out,HZ2.out.mt.bel⟩
 case round =>
  obtain ⟨bb,M',rfl,hgk,hM',hI⟩:=hrel
  obtain ⟨ht,hn,hbel⟩:=hI.out
  have HBEL:=hid hbel
  cases bb
  ·have HNA := hid (zmr (hn rfl))
   clear hI ht hn hbel
   go_wp2_with fail
   go_ret
   rw [HNA.out,<- HBA.out]
   exact ⟨rfl,HBEL.out⟩
  ·obtain ⟨S, hz, hr⟩ := ht rfl
   obtain ⟨aO,cO,hvo,hoc,hom⟩:=jd hz.mt.ow
   by_cases hop : S.op = []
   ·have HA := hid ((gy os a b).2 (hz.mg.alike hop hr))
    have k3 : wr.cell? ⟨bA + 2,3,none⟩ = some (.slice aO 0 cO):=by
     have:=za hz.mt.box 3
     rw [hvo,hop] at this
     exact this
    clear hI hn ht hbel hz hr hvo hop hoc
    go_wp2_with fail
    go_ret
    rw [HA.out,<- HBA.out]
    exact ⟨rfl,HBEL.out⟩
   ·obtain ⟨op', p, hpo⟩ : ∃ s0 o, S.op = s0 ++ [o] := ⟨S.op.dropLast, S.op.getLast hop, (List.dropLast_concat_getLast _).symm⟩
    obtain ⟨x,y⟩:=p
    have hmt:=hz.mt
    rw [hpo] at hmt
    obtain ⟨g,cap,hv1,hc1,hc2,d0,d1,_⟩:=hmt.pop
    have hmt2:=hmt.on (Ba wr (.cells #[.int .u64 x,.int .u64 y] 115))
    obtain ⟨g',cap',hv2,_,_,_,_,hp2⟩:=hmt2.pop
    have e2 : g = g' /\ cap = cap':=by rw [hv1] at hv2;injection hv2 with e1 e2 e3;injection e1 with e1;injection e1 with e1;exact ⟨e1,e3⟩
    obtain ⟨rfl,rfl⟩:=e2
    have k3 : wr.cell? ⟨bA + 2,3,none⟩ = some (.slice (some ⟨g,0,none⟩) (op'.length + 1) cap):=by rw [<- hv1];exact za hmt.box 3
    have n3 : (wr.alloc (.cells #[.int .u64 x,.int .u64 y] 115)).cell? ⟨bA + 2,3,none⟩ = some (.slice (some ⟨g,0,none⟩) (op'.length + 1) cap):=by rw [<- hv1];exact za hmt2.box 3
    have f3 : (wr.alloc (.cells #[.int .u64 x,.int .u64 y] 115)).frozen? ⟨bA + 2,3,none⟩ = false:=zf hmt2.box 3
    obtain ⟨Wb,hWb⟩ : ∃ W,W = (wr.alloc (.cells #[.int .u64 x,.int .u64 y] 115)).setCell ⟨bA + 2,3,none⟩ (.slice (some ⟨g,0,none⟩) op'.length cap):=⟨_,rfl⟩
    rw [<- hWb] at hp2
    have hlw:=hmt.lt
    have hbox : Wb.heap[wr.heap.size]? = some (.cells #[.int .u64 x,.int .u64 y] 115 (0,0)):=by rw [hWb];exact (Below.heap_setCell _ _ _ _ (by show wr.heap.size ≠ bA + 2;omega)).trans (zd _ _ _)
    have m0 : Wb.cell? ⟨wr.heap.size,0,none⟩ = some (.int .u64 x):=za hbox 0
    have m1 : Wb.cell? ⟨wr.heap.size,1,none⟩ = some (.int .u64 y):=za hbox 1
    rw [hWb] at m0 m1
    obtain ⟨o1,o2,o3,o4⟩:=hz.mg.opm (x,y) (by rw [hpo];exact List.mem_append_right _ (List.mem_singleton.2 rfl))
    have hal : ja (hpO os) a b -> ja (hpO os) x y:=fun e=>hz.mg.al e (x,y) (by rw [hpo];exact List.mem_append_right _ (List.mem_singleton.2 rfl))
    have C1:=hid (CF.out (M' - 1) ⟨S.root,S.d,S.L,S.q,S.hq,op',S.G,.slice (some ⟨g,0,none⟩) op'.length cap⟩ x y Wb (by omega) ⟨hp2,hz.mg.take hpo _⟩ o1 o2 o3 o4 hal)
    have hme:=hz.mg.me
    rw [hpo,List.length_append,List.length_singleton] at hme
    have HR:=hid hr
    have HAL:=hid hal
    obtain ⟨n',hn'⟩ : ∃ n,n = op'.length:=⟨_,rfl⟩
    rw [<- hn'] at k3 n3 d0 d1 hc1 hme
    rw [hWb,<- hn'] at C1
    rw [<- hn'] at m0 m1
    unfold maxLen at hc2
    clear hI hn ht hbel hz hr hvo hop hoc hom hpo hmt hmt2 hv1 hv2 hp2 hWb hbox o1 o2 o3 o4 hal hn' hlw
    go_wp2_with (go_at_call 57;(with_reducible refine C1.out.mono ?_);rintro e W3 ⟨bb,rfl,S3,z3,k3,t3,q3⟩;have HZ3:=hid z3;have HK3:=hid k3;have HT3:=hid t3;have HQ3:=hid q3;clear z3 k3 t3 q3)
    go_roundg (gk - 1)
    case measure=>omega
    case rel =>
     refine ⟨bb,M' - 1,rfl,by omega,by omega,fun e=>⟨S3,⟨HZ3.out.mt,HZ3.out.mg.done (HT3.out e)⟩,HK3.out a b HR.out⟩,fun e ha=>HQ3.out e (HAL.out ha),HZ3.out.mt.bel⟩
end
end Go.Proofs.YticimejfjjmikaaGreatDoor
