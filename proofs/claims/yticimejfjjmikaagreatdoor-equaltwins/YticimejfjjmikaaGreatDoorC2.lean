import Derived.Test.YticimejfjjmikaaGreatDoorM6
import Derived.Test.YticimejfjjmikaaGreatDoorG3
import Derived.Test.YticimejfjjmikaaGreatDoorM2
import Derived.Test.YticimejfjjmikaaGreatDoorQ1
import Derived.Test.YticimejfjjmikaaGreatDoorW20
import Derived.Test.YticimejfjjmikaaGreatDoorG13
import Derived.Test.YticimejfjjmikaaGreatDoorV3
import Derived.Test.YticimejfjjmikaaGreatDoorSG1
import Derived.Test.YticimejfjjmikaaGreatDoorW22
set_option linter.unusedVariables false
set_option linter.unusedSimpArgs false
namespace Go.Proofs.YticimejfjjmikaaGreatDoor
open Go.RowKit
def ye (ns : List Nd) : List Int -> Nat -> List Int
 | [],_=>[]
 | o :: ord,k=>if yi (ns.getD o.toNat default).kind = true then (k : Int) :: ye ns ord (k + 1) else ye ns ord (k + 1)
theorem zfn (ns : List Nd) (o : Int) : ∀ (ord : List Int) (k : Nat),ye ns (ord ++ [o]) k = ye ns ord k ++ (if yi (ns.getD o.toNat default).kind = true then [((k + ord.length : Nat) : Int)] else [])
 | [],k=>by simp [ye]
 | x :: ord,k=>by
  have ih:=zfn ns o ord (k + 1)
  simp only [List.cons_append,ye,ih,List.length_cons]
  have e : k + 1 + ord.length = k + (ord.length + 1):=by omega
  rw [e]
  split <;> simp
theorem zdb (ns : List Nd) : ∀ (ord : List Int) (k : Nat),∀ z∈ye ns ord k,(k : Int) <= z /\ z < k + ord.length
 | [],k,z,h=>by simp [ye] at h
 | x :: ord, k, z, h => by
  have ih:=zdb ns ord (k + 1)
  simp only [ye] at h
  have hs : z∈ye ns ord (k + 1) -> (k : Int) <= z /\ z < k + ((x :: ord).length : Nat):=fun h=>by
   have:=ih z h;simp;omega
  split at h
  ·rcases List.mem_cons.1 h with rfl | h
   ·simp;omega
   ·exact hs h
  ·exact hs h
theorem zgx (ns : List Nd) : ∀ (ord : List Int) (k : Nat),(ye ns ord k).length <= ord.length
 | [],k=>by simp [ye]
 | x :: ord,k=>by
  have ih:=zgx ns ord (k + 1)
  simp only [ye];split <;> simp <;> omega
def zci (ns : List Nd) (ord : List Int) (d : Nd) (z : Int) : Bool:=decide (yx (ns.getD (ord.getD z.toNat 0).toNat default) d)
theorem zbb (ns : List Nd) (d : Nd) (all : List Int) : ∀ (ord : List Int) (k : Nat),(∀ j,j < ord.length -> all.getD (k + j) 0 = ord.getD j 0) ->
  ((jb ns ord d).map fun j=>((k + j : Nat) : Int)) = (ye ns ord k).find? (zci ns all d)
 | [],k,_=>by simp [jb,ye]
 | o :: ord, k, h => by
  have h0:=h 0 (by simp)
  rw [Nat.add_zero] at h0
  have ih:=zbb ns d all ord (k + 1) (fun j hj=>by have:=h (j + 1) (by simpa using hj);rw [show k + 1 + j = k + (j + 1) by omega];rw [this];simp)
  have hsame : zci ns all d (k : Int) = decide (yx (ns.getD o.toNat default) d):=by unfold zci;rw [Int.toNat_natCast,h0];rfl
  unfold jb at *
  rw [List.findIdx?_cons,ye]
  by_cases ha : yi (ns.getD o.toNat default).kind = true
  ·rw [if_pos ha, List.find?_cons, hsame, ha, Bool.true_and]
   by_cases hs : yx (ns.getD o.toNat default) d
   ·rw [decide_eq_true hs];simp
   ·rw [decide_eq_false hs]
    simp only [Bool.false_eq_true,if_false]
    rw [<- ih,Option.map_map]
    congr 1
    funext j;simp;omega
  ·rw [if_neg ha, Bool.eq_false_iff.2 ha, Bool.false_and]
   simp only [Bool.false_eq_true,if_false]
   rw [<- ih,Option.map_map]
   congr 1
   funext j;simp;omega
theorem zfo (ns : List Nd) (ord : List Int) (d : Nd) : ((jb ns ord d).map fun (j : Nat)=>(j : Int)) = (ye ns ord 0).find? (zci ns ord d):=by
 have:=zbb ns d ord ord 0 (fun j _=>by rw [Nat.zero_add])
 simp only [Nat.zero_add] at this
 exact this
theorem zdc {ns : List Nd} {pt ord : List Int} {n : Nat} (h : 0 <= pt.getD n 0 \/ yi (ns.getD n default).kind = false) : qv ns pt ord n = pt.getD n 0:=by unfold qv;rw [if_pos h]
theorem zql {ns : List Nd} {pt ord : List Int} {n : Nat} {z : Int} (h : ¬ (0 <= pt.getD n 0 \/ yi (ns.getD n default).kind = false)) (hf : (ye ns ord 0).find? (zci ns ord (ns.getD n default)) = some z) : qv ns pt ord n = z:=by
 unfold qv;rw [if_neg h]
 rw [<- zfo] at hf
 cases hq : jb ns ord (ns.getD n default) with
 | none=>rw [hq] at hf;cases hf
 | some j=>rw [hq] at hf;exact Option.some.inj hf
theorem zqm {ns : List Nd} {pt ord : List Int} {n : Nat} (h : ¬ (0 <= pt.getD n 0 \/ yi (ns.getD n default).kind = false)) (hf : (ye ns ord 0).find? (zci ns ord (ns.getD n default)) = none) : qv ns pt ord n = -1:=by
 unfold qv;rw [if_neg h]
 rw [<- zfo] at hf
 cases hq : jb ns ord (ns.getD n default) with
 | none=>rfl
 | some j=>rw [hq] at hf;cases hf
theorem zcj {l : List Int} {p : Int -> Bool} {m : Nat} (hm : m < l.length) (h : (l.take m).find? p = none) : (p (l.getD m 0) = true -> l.find? p = some (l.getD m 0)) /\ (p (l.getD m 0) = false -> (l.take (m + 1)).find? p = none):=by
 have e : l.getD m 0 = l[m]:=by rw [List.getD_eq_getElem?_getD,List.getElem?_eq_getElem hm];rfl
 constructor
 ·intro hp
  have h2 : l = l.take m ++ l.drop m:=(List.take_append_drop m l).symm
  rw [h2,List.find?_append,h]
  rw [<- h2,e]
  rw [List.drop_eq_getElem_cons hm,List.find?_cons,<- e,hp];simp
 ·intro hp
  rw [List.take_succ_eq_append_getElem hm,List.find?_append,h,<- e,List.find?_cons,hp];rfl
set_option maxRecDepth 100000
instance : DecidableEq Nd:=fun a b=>decidable_of_iff (a.kind = b.kind /\ a.num = b.num /\ a.text = b.text /\ a.kids = b.kids) (by cases a;cases b;simp)
theorem zae {α : Type} (d : α) {l : List α} {m : Nat} (h : m < l.length) : l.take (m + 1) = l.take m ++ [l.getD m d]:=by
 rw [List.take_succ_eq_append_getElem h,List.getD_eq_getElem?_getD,List.getElem?_eq_getElem h];rfl
structure GOk (w : World) (an : Option Addr) (nn cn : Nat) (ar : Option Addr) (nr cr : Nat) (ns : List Nd) (rs : List Int) : Prop where
 is : GIs w an nn cn ar nr cr ns rs
 small : j9 ns
 kids : ∀ d∈ns,d.kids.length <= 100
 nn_le : nn <= 2500
 nr_le : nr <= 2500
theorem GOk.below {w w' : World} {an ar : Option Addr} {nn cn nr cr : Nat} {ns : List Nd} {rs : List Int} (h : GOk w an nn cn ar nr cr ns rs) (hb : Below w.heap.size w w') : GOk w' an nn cn ar nr cr ns rs:=⟨h.is.below hb,h.small,h.kids,h.nn_le,h.nr_le⟩
def zf (ns : List Nd) (rs : List Int) : List Nd × List Int:=yj ns rs 300001
set_option maxHeartbeats 1000000 in
theorem zck1 (an ar : Option Addr) (nn cn nr cr : Nat) (ns : List Nd) (rs : List Int) (most : Nat) (hmost : most <= 1000) (w : World) (G : GIs w an nn cn ar nr cr ns rs) :
  Calls Tryz.prog 50 #[GVal an nn cn ar nr cr,.int .i64 most] w fun e w'=>e = .returned (.bool (fewB ns rs most)) /\ Below w.heap.size w w':=by
 have HG:=hid G
 have hn1:=G.nodes.fits
 have hn2:=G.nodes.most
 have hr1:=G.roots.fits
 have hr2:=G.roots.most
 unfold maxLen at hn2 hr2
 unfold GVal
 clear G
 go_enter Tryz.func50,Tryz.ntmps50
 by_cases h1 : nn <= most
 ·by_cases h2 : nr <= most
  ·go_wp2
   have b1:=Ba w (.cells #[.slice an nn cn,.slice ar nr cr] 34)
   have x1:=GBox.new 34 w an ar nn cn nr cr
   obtain ⟨g,hg⟩ : ∃ g,g = w.heap.size:=⟨_,rfl⟩
   rw [<- hg] at x1
   rw [<- hg]
   have G1:=hid (HG.out.below b1)
   generalize w.alloc (.cells #[.slice an nn cn,.slice ar nr cr] 34) = W1 at *
   have HB:=hid b1
   obtain ⟨c0,c1⟩:=x1.c
   clear b1 x1 hg
   go_loopw [5] (fun i wr=>∃ m : Nat,m <= nn /\ i = .int .i64 m /\ Hid (zeh ns m = true) /\ Hid (wr = W1)) (fun i _=>nn - (intOf i).toNat)
   case atStart=>exact ⟨0,Nat.zero_le _,rfl,by unfold Hid zeh;simp,hid rfl⟩
   case round =>
    obtain ⟨m,hm,rfl,hF,hw⟩:=hrel
    have hw:=hw.out
    subst hw
    by_cases hlt : m < nn
    ·obtain ⟨b, o, rfl, hl, hc⟩ := G1.out.nodes.some (by omega)
     obtain ⟨k1,k2,k3,ak,nk,ck,k4,k5⟩:=hc m hlt
     have hnl : m < ns.length:=by rw [G1.out.nodes.len];exact hlt
     obtain ⟨d,hd⟩ : ∃ d,d = ns.getD m default:=⟨_,rfl⟩
     have hok:=G1.out.nodes.get hlt
     rw [<- hd] at k3 k5 hok
     have hts:=hok.2.2
     have hkl:=k5.len
     have hkf:=k5.fits
     have hkm:=k5.most
     unfold maxLen at hts hkm
     have hstep : Hid (zeh ns (m + 1) = (decide (d.text.size <= 2000) && decide (nk <= 100))):=by
      unfold Hid;rw [zpl hnl,hF.out,<- hd,hkl];simp
     clear k1 k2 hc k5 hok hd
     generalize d.text = t at *
     by_cases ht : t.size <= 2000
     ·by_cases hk : nk <= 100
      ·go_wp2
       exact ⟨⟨m + 1,by omega,by omega,by unfold Hid;rw [hstep.out];simp [ht,hk]⟩,by simp [intOf] <;> omega⟩
      ·go_wp2
       go_ret
       refine ⟨?_,HB.out⟩
       have h3:=zei (j:=ns.length) (k:=m) hnl (Nat.le_refl _) (by rw [hstep.out];simp [hk])
       unfold fewB;rw [h3];simp
     ·go_wp2
      go_ret
      refine ⟨?_,HB.out⟩
      have h3:=zei (j:=ns.length) (k:=m) hnl (Nat.le_refl _) (by rw [hstep.out];simp [ht])
      unfold fewB;rw [h3];simp
    ·obtain rfl : m = nn := by omega
     go_wp2
     go_ret
     refine ⟨?_,HB.out⟩
     unfold fewB
     rw [G1.out.nodes.len,G1.out.roots.len,hF.out];simp [h1,h2]
  ·go_wp2
   go_ret
   refine ⟨?_,Ba _ _⟩
   unfold fewB
   rw [HG.out.roots.len];simp [h2]
 ·go_wp2
  go_ret
  refine ⟨?_,Ba _ _⟩
  unfold fewB
  rw [HG.out.nodes.len];simp [h1]
theorem zvc {ns : List Nd} {rs : List Int} {most : Nat} (h : fewB ns rs most = true) : ns.length <= most /\ rs.length <= most /\ j9 ns /\ ∀ d∈ns,d.kids.length <= 100:=by
 unfold fewB zeh at h
 rw [List.take_length] at h
 simp only [Bool.and_eq_true,decide_eq_true_eq,List.all_eq_true] at h
 exact ⟨h.1.1,h.1.2,fun d hd=>(h.2 d hd).1,fun d hd=>(h.2 d hd).2⟩
structure zyk (w : World) (oa : Option Addr) (on oc : Nat) (os : List Nd) (ta : Option Addr) (tc : Nat) (pt : List Int) (sa : Option Addr) (sn sc : Nat) (ns : List Nd) (ord : List Int) (an : Option Addr) (nn cn : Nat) : Prop where
 out : NRow w oa on oc os
 olen : on = ord.length
 osame : ∀ j,j < ord.length -> yx (os.getD j default) (ns.getD (ord.getD j 0).toNat default)
 pt_ : IRow w ta nn tc pt
 atoms : IRow w sa sn sc (ye ns ord 0)
 nodes : NRow w an nn cn ns
 small : nn <= 2500 /\ on <= 2500
set_option maxHeartbeats 4000000 in
theorem zck (oa : Option Addr) (on oc : Nat) (xa : Option Addr) (xn xc : Nat) (os : List Nd) (ta : Option Addr) (tc : Nat) (pt : List Int) (sa : Option Addr) (sn sc : Nat) (ns : List Nd) (ord : List Int) (an : Option Addr) (nn cn : Nat) (ar : Option Addr) (nr cr : Nat) (n : Nat) (hn : n < nn) (w : World) (M : zyk w oa on oc os ta tc pt sa sn sc ns ord an nn cn) :
  Calls Tryz.prog 45 #[.agg #[.slice oa on oc,.slice xa xn xc],.slice ta nn tc,.slice sa sn sc,.agg #[.slice an nn cn,.slice ar nr cr],.int .i64 (n : Int)] w fun e w'=>e = .returned (.int .i64 (qv ns pt ord n)) /\ Below w.heap.size w w':=by
 have HM:=hid M
 have hm1:=M.small
 have ht1:=M.pt_.fits
 have ht2:=M.pt_.most
 have hs1:=M.atoms.fits
 have hs2:=M.atoms.most
 have hn1:=M.nodes.fits
 have hn2:=M.nodes.most
 have ho1:=M.out.fits
 have ho2:=M.out.most
 have HSL:=hid M.atoms.len
 have HOL:=hid M.olen
 unfold maxLen at ht2 hs2 hn2 ho2
 obtain ⟨hm1,hm2⟩:=hm1
 obtain ⟨bt,ot,rfl,hlt,hct⟩:=M.pt_.some (by omega)
 obtain ⟨bn,on',rfl,hln,hcn⟩:=M.nodes.some (by omega)
 have c1:=hct n hn
 obtain ⟨j1,j2,j3,ak,nk,ck,j4,j5⟩:=hcn n hn
 obtain ⟨p,hp⟩ : ∃ p,p = pt.getD n 0:=⟨_,rfl⟩
 obtain ⟨d,hd⟩ : ∃ d,d = ns.getD n default:=⟨_,rfl⟩
 rw [<- hp] at c1
 rw [<- hd] at j1 j2 j3 j5
 obtain ⟨dk,dn,dt,dl⟩:=d
 simp only [] at j1 j2 j3 j5
 have HP:=hid hp
 have HD:=hid hd
 have bA:=Baa w (.cells #[.slice oa on oc,.slice xa xn xc] 34) (.cells #[.slice (some ⟨bn,on',none⟩) nn cn,.slice ar nr cr] 34)
 have c1':=(bA.cell (p:=⟨bt,ot + n,none⟩) hlt).trans c1
 have j1':=(bA.cell (p:=⟨bn,on' + n * 4,none⟩) hln).trans j1
 have j2':=(bA.cell (p:=⟨bn,on' + n * 4 + 1,none⟩) hln).trans j2
 have j3':=(bA.cell (p:=⟨bn,on' + n * 4 + 2,none⟩) hln).trans j3
 have j4':=(bA.cell (p:=⟨bn,on' + n * 4 + 3,none⟩) hln).trans j4
 have HBA:=hid bA
 clear M hct hcn c1 j1 j2 j3 j4 j5 hp hd bA
 by_cases hp0 : 0 <= p
 ·have e0 : decide (0 <= p) = true := by simp [hp0]
  go_enter Tryz.func45,Tryz.ntmps45
  go_wp2
  go_ret
  exact ⟨by rw [zdc (.inl (by rw [<- HP.out];exact hp0)),<- HP.out];rfl,HBA.out⟩
 ·have e0 : decide (0 <= p) = false := by simp [hp0]
  go_enter Tryz.func45,Tryz.ntmps45
  go_wp2_with fail
  refine (zel dk _).mono ?_
  rintro e w7 ⟨rfl,hw7⟩
  subst hw7
  cases ha : yi dk
  ·go_wp2
   go_ret
   exact ⟨by rw [zdc (.inr (by rw [<- HD.out];exact ha)),<- HP.out];rfl,HBA.out⟩
  ·have HNS : Hid (¬ (0 <= pt.getD n 0 \/ yi (ns.getD n default).kind = false)) := by unfold Hid; rw [<- HP.out, <- HD.out]; simp [hp0, ha]
   go_wp2_with fail
   have bB : Below w.heap.size w (yu w [(.cells #[.slice oa on oc,.slice xa xn xc] 34),(.cells #[.slice (some ⟨bn,on',none⟩) nn cn,.slice ar nr cr] 34),(.cells #[.int .i64 dk,.int .i64 dn,.string dt,.slice ak nk ck] 54)]):=qd _ _
   have x0 : (yu w [(.cells #[.slice oa on oc,.slice xa xn xc] 34),(.cells #[.slice (some ⟨bn,on',none⟩) nn cn,.slice ar nr cr] 34),(.cells #[.int .i64 dk,.int .i64 dn,.string dt,.slice ak nk ck] 54)]).heap[w.heap.size]? = some (.cells #[.slice oa on oc,.slice xa xn xc] 34 (0,0)):=yn (i:=0) rfl
   have x2 : (yu w [(.cells #[.slice oa on oc,.slice xa xn xc] 34),(.cells #[.slice (some ⟨bn,on',none⟩) nn cn,.slice ar nr cr] 34),(.cells #[.int .i64 dk,.int .i64 dn,.string dt,.slice ak nk ck] 54)]).heap[w.heap.size + 1 + 1]? = some (.cells #[.int .i64 dk,.int .i64 dn,.string dt,.slice ak nk ck] 54 (0,0)):=yn (i:=2) rfl
   have hWW : yu w [(.cells #[.slice oa on oc,.slice xa xn xc] 34),(.cells #[.slice (some ⟨bn,on',none⟩) nn cn,.slice ar nr cr] 34),(.cells #[.int .i64 dk,.int .i64 dn,.string dt,.slice ak nk ck] 54)] = ((w.alloc (.cells #[.slice oa on oc,.slice xa xn xc] 34)).alloc (.cells #[.slice (some ⟨bn,on',none⟩) nn cn,.slice ar nr cr] 34)).alloc (.cells #[.int .i64 dk,.int .i64 dn,.string dt,.slice ak nk ck] 54):=rfl
   rw [<- hWW]
   clear hWW
   generalize yu w [(.cells #[.slice oa on oc,.slice xa xn xc] 34),(.cells #[.slice (some ⟨bn,on',none⟩) nn cn,.slice ar nr cr] 34),(.cells #[.int .i64 dk,.int .i64 dn,.string dt,.slice ak nk ck] 54)] = W2 at *
   obtain ⟨gx,hgx⟩ : ∃ g,g = w.heap.size + 1 + 1:=⟨_,rfl⟩
   obtain ⟨g1,hg1⟩ : ∃ g,g = w.heap.size + 1:=⟨_,rfl⟩
   obtain ⟨g0,hg0⟩ : ∃ g,g = w.heap.size:=⟨_,rfl⟩
   rw [<- hgx] at x2
   rw [<- hg0] at x0
   rw [<- hgx,<- hg1,<- hg0]
   have HB:=hid bB
   have X0:=hid x0
   have X2:=hid x2
   clear hgx hg1 hg0 bB x0 x2 c1' j1' j2' j3' j4' HBA
   go_loopw [12] (fun i wr=>∃ m : Nat,m <= sn /\ i = .int .i64 m /\ Hid (((ye ns ord 0).take m).find? (zci ns ord ⟨dk,dn,dt,dl⟩) = none /\ Below W2.heap.size W2 wr)) (fun i _=>sn - (intOf i).toNat)
   case atStart=>exact ⟨0,Nat.zero_le _,rfl,rfl,Below.refl _ _⟩
   case round =>
    obtain ⟨m,hmn,rfl,hI⟩:=hrel
    obtain ⟨hf,hb⟩:=hI.out
    have HF:=hid hf
    have HBR:=hid hb
    clear hf hI
    by_cases hlm : m < sn
    ·obtain ⟨bs, os', rfl, hls, hcs⟩ := HM.out.atoms.some (by omega)
     have hml : m < (ye ns ord 0).length:=by have:=HSL.out;omega
     obtain ⟨z,hz⟩ : ∃ z,z = (ye ns ord 0).getD m 0:=⟨_,rfl⟩
     have hzr:=zdb ns ord 0 z (by rw [hz,List.getD_eq_getElem?_getD,List.getElem?_eq_getElem hml];exact List.getElem_mem hml)
     obtain ⟨kn,rfl⟩:=Int.eq_ofNat_of_zero_le (by omega : 0 <= z)
     have hkn : kn < on:=by have:=HOL.out;omega
     have HZ:=hid hz
     obtain ⟨bo,oo,rfl,hlo,hco⟩:=HM.out.out.some (by omega)
     have bW : Below w.heap.size w wr:=Bt HB.out hb
     have cz0 : wr.cell? ⟨bs,os' + m,none⟩ = some (.int .i64 (kn : Int)):=by rw [hz];exact (bW.cell (p:=⟨bs,os' + m,none⟩) hls).trans (hcs m hlm)
     have hnd:=(hco kn hkn).below hlo bW
     have hos:=HM.out.osame kn (by have:=HOL.out;omega)
     obtain ⟨e,he⟩ : ∃ e,e = os.getD kn default:=⟨_,rfl⟩
     rw [<- he] at hnd hos
     obtain ⟨i1,i2,i3,ae,ne,ce,i4,_⟩:=hnd
     obtain ⟨ek,en,et,el⟩:=e
     simp only [] at i1 i2 i3
     have hP : Hid (zci ns ord ⟨dk,dn,dt,dl⟩ ((ye ns ord 0).getD m 0) = decide (ek = dk /\ en = dn /\ et = dt)):=by
      unfold Hid zci
      rw [<- hz,Int.toNat_natCast]
      exact zdk hos.symm (yx.rfl' _)
     obtain ⟨y0,y1⟩:=(GBox.on (t:=34) (p:=g0) X0.out hb).c
     have X2r:=(hb.block gx (Array.getElem?_eq_some_iff.1 X2.out).1).trans X2.out
     have y2 : wr.cell? ⟨gx,0,none⟩ = some (.int .i64 dk):=za X2r 0
     have y3 : wr.cell? ⟨gx,1,none⟩ = some (.int .i64 dn):=za X2r 1
     have y4 : wr.cell? ⟨gx,2,none⟩ = some (.string dt):=za X2r 2
     clear hz hcs hco he hos hb bW X2r hzr
     by_cases hne : ek = dk
     ·subst hne
      by_cases hne : en = dn
      ·subst hne
       by_cases hne : et = dt
       ·subst hne
        have e1 : (ek == ek) = true:=by simp
        have e2 : (en == en) = true:=by simp
        have e3 : (et.toList == et.toList) = true:=by simp
        go_wp2_with fail
        go_quiet (fail)
        have HBQ:=hid (Bt HBR.out (Bd wr nq))
        go_wp2
        go_ret
        refine ⟨?_,Bt HB.out HBQ.out⟩
        have h1:=(zcj hml HF.out).1 (by rw [hP.out];simp)
        rw [<- HZ.out] at h1
        rw [zql HNS.out (by rw [<- HD.out];exact h1)];rfl
       ·have e1 : (ek == ek) = true := by simp
        have e2 : (en == en) = true:=by simp
        have e3 : (et.toList == dt.toList) = false:=by rw [znn];simp [hne]
        go_wp2_with fail
        go_quiet (fail)
        have HBQ:=hid (Bt HBR.out (Bd wr nq))
        go_wp2
        refine ⟨⟨m + 1,by omega,by go_num,(zcj hml HF.out).2 (by rw [hP.out];simp [hne]),HBQ.out⟩,by simp [intOf] <;> omega⟩
      ·have e1 : (ek == ek) = true := by simp
       have e2 : (en == dn) = false:=by simp [hne]
       go_wp2_with fail
       go_quiet (fail)
       have HBQ:=hid (Bt HBR.out (Bd wr nq))
       go_wp2
       refine ⟨⟨m + 1,by omega,by go_num,(zcj hml HF.out).2 (by rw [hP.out];simp [hne]),HBQ.out⟩,by simp [intOf] <;> omega⟩
     ·have e1 : (ek == dk) = false := by simp [hne]
      go_wp2_with fail
      go_quiet (fail)
      have HBQ:=hid (Bt HBR.out (Bd wr nq))
      go_wp2
      refine ⟨⟨m + 1,by omega,by go_num,(zcj hml HF.out).2 (by rw [hP.out];simp [hne]),HBQ.out⟩,by simp [intOf] <;> omega⟩
    ·obtain rfl : sn = m := by omega
     go_wp2
     go_ret
     refine ⟨?_,Bt HB.out HBR.out⟩
     have h1:=HF.out
     rw [List.take_of_length_le (by have:=HSL.out;omega)] at h1
     rw [zqm HNS.out (by rw [<- HD.out];exact h1)];rfl
theorem vx {w w' : World} {base : Nat} {e : TypeId} {k : Nat} {v : Value} {n : Nat} {xs : List Value} (h : w.ownsRow base e k v n xs) (hb : Below w.heap.size w w') : w'.ownsRow base e k v n xs:=by
 refine ⟨h.1,?_⟩
 rcases h.2 with h0 | ⟨g,cap,cur,h1,h2,h3,h4⟩
 ·exact .inl h0
 ·exact .inr ⟨g,cap,cur,h1,h2,(hb.block g (Array.getElem?_eq_some_iff.1 h3).1).trans h3,h4⟩
def Mjn (s : Nat × Bool) : Nat:=(2 - s.1) + (if s.2 then 0 else 1)
structure JInv (w W1 : World) (go : Nat) (tG : TypeId) (vN : Value) (ls : List (Nd × (Option Addr × Nat × Nat))) (wr : World) : Prop where
 out : wr.heap[go]? = some (.cells #[vN,.slice none 0 0] tG (0,0))
 keep : ∀ b,b < W1.heap.size -> b ≠ go -> wr.heap[b]? = W1.heap[b]?
 own : NOwn W1.heap.size wr vN ls
 bel : Below w.heap.size w wr
 size : W1.heap.size <= wr.heap.size
theorem zev1 {P : Program} {w : World} {ops : Array Oper} {rest : List Oper} {o : Oper} {a : Act} {Q : Exit -> Act -> World -> Prop} (hgd : o.guard = none) (s x : Operand) (t : TypeId) (ho : o.op = .call { callee:=.builtin .append,args:=#[s,x],argTypes:=#[t,t] })
  (base : Nat) (e : TypeId) (ht : P.underlying t = some (.slice e)) (hi : (P.info? e).map (fun i=>(i.zero,i.size,i.bytes)) = some (some (.int .i64 0),1,8))
  (v : Value) (n : Nat) (l : List Int) (hs : a.eval s = v) (hown : w.ownsRow base e 1 v n (cz l))
  (ao : Option Addr) (m c : Nat) (r : List Int) (hx : a.eval x = .slice ao m c) (hr : IRow w ao m c r) (hsm : n + m <= 1000000) (hbase : base <= w.heap.size)
  (h : ∀ v' w',w'.ownsRow base e 1 v' (n + m) (cz (l ++ r)) -> w.grownBy w' v.ownBlock -> wpList P ops Q rest (a.put o.dst v') w') : wpList P ops Q (o :: rest) a w :=
 wpList_plain hgd fun K hK=>by
  have:=zid (P:=P) (w:=w) (ops:=ops) (o:=o) (a:=a) (K:=K) (Q:=Q) (E:=False) o.dst rfl hgd s x t ho base e ht hi v n l hs hown ao m c r hx hr hsm hbase (fun v' w' h1 h2=>hK _ _ (h v' w' h1 h2))
  have hw : Region.wanted o (yielded ops a.tmps) = true:=by simp [Region.wanted,hgd]
  rw [if_pos hw] at this
  exact this
structure zgd1 (w W1 wr w5 : World) (go gx : Nat) (av : Option Addr) (cv : Nat) (ls : List (Nd × (Option Addr × Nat × Nat))) (dk dn : Int) (dt : ByteArray) (ak ak' : Option Addr) (nk ck ck' : Nat) (dl : List Int) (V : World) : Prop where
 f3 : w5.frozen? ⟨gx,3,none⟩ = false
 cc3 : w5.cell? ⟨gx,3,none⟩ = some (.slice ak nk ck)
 n0 : (w5.setCell ⟨gx,3,none⟩ (.slice ak' nk ck')).cell? ⟨gx,0,none⟩ = some (.int .i64 dk)
 n1 : (w5.setCell ⟨gx,3,none⟩ (.slice ak' nk ck')).cell? ⟨gx,1,none⟩ = some (.int .i64 dn)
 n2 : (w5.setCell ⟨gx,3,none⟩ (.slice ak' nk ck')).cell? ⟨gx,2,none⟩ = some (.string dt)
 n3 : (w5.setCell ⟨gx,3,none⟩ (.slice ak' nk ck')).cell? ⟨gx,3,none⟩ = some (.slice ak' nk ck')
 g0 : (w5.setCell ⟨gx,3,none⟩ (.slice ak' nk ck')).cell? ⟨go,0,none⟩ = some (.slice av ls.length cv)
 na : V.heap[w5.heap.size]? = some (.cells #[.int .i64 dk,.int .i64 dn,.string dt,.slice ak' nk ck'] 54 (0,0))
 no : NOwn W1.heap.size V (.slice av ls.length cv) ls
 ia : IRow V ak' nk ck' dl
 ka : ∀ ad,ak' = some ad -> wr.heap.size <= ad.block /\ ad.block < V.heap.size
 ga : V.heap[go]? = some (.cells #[.slice av ls.length cv,.slice none 0 0] 34 (0,0))
 ba : Below wr.heap.size wr V
theorem zqn {w W1 wr W3 w5 : World} {go gx : Nat} {av : Option Addr} {cv : Nat} {ls : List (Nd × (Option Addr × Nat × Nat))} {dk dn : Int} {dt : ByteArray} {ak ak' : Option Addr} {nk ck ck' : Nat} {dl : List Int}
  (HJ : JInv w W1 go 34 (.slice av ls.length cv) ls wr) (hgx : wr.heap.size = gx) (HXE : Below wr.heap.size wr W3) (hs3 : gx + 1 < W3.heap.size) (HXB : W3.heap[gx]? = some (.cells #[.int .i64 dk,.int .i64 dn,.string dt,.slice ak nk ck] 54 (0,0)))
  (hgrow : W3.grownBy w5 (some (gx + 1))) (hown : w5.ownsRow (gx + 1) 3 1 (.slice ak' nk ck') nk (cz dl)) (hbd : ∀ z∈dl,I64 z) :
  zgd1 w W1 wr w5 go gx av cv ls dk dn dt ak ak' nk ck ck' dl ((w5.setCell ⟨gx,3,none⟩ (.slice ak' nk ck')).alloc (.cells #[.int .i64 dk,.int .i64 dn,.string dt,.slice ak' nk ck'] 54)):=by
 have hx5:=(hgrow.block gx (by omega) (fun e=>by have:=Option.some.inj e;omega)).trans HXB
 have hb5 : Below wr.heap.size wr w5:=HXE.trans ((Below.refl _ _).grown hgrow (Nat.le_trans (by omega) HXE.size) (fun k hk=>by have:=Option.some.inj hk;omega))
 have hblk4 : (w5.setCell ⟨gx,3,none⟩ (.slice ak' nk ck')).heap[gx]? = some (.cells #[.int .i64 dk,.int .i64 dn,.string dt,.slice ak' nk ck'] 54 (0,0)):=by
  have:=zq (i:=3) hx5 (.slice ak' nk ck');rw [this];rfl
 have B4 : Below wr.heap.size wr (w5.setCell ⟨gx,3,none⟩ (.slice ak' nk ck')):=hb5.setCell (p:=⟨gx,3,none⟩) (by show wr.heap.size <= gx;omega) _
 have hown4 : (w5.setCell ⟨gx,3,none⟩ (.slice ak' nk ck')).ownsRow (gx + 1) 3 1 (.slice ak' nk ck') nk (cz dl):=je hown (fun b hb'=>Below.heap_setCell _ _ _ _ (by have:=(hown.lt b hb').1;show b ≠ gx;omega))
 obtain ⟨_,_,hve,hIR4⟩:=j8 hown4 hbd
 cases hve
 have hgtw : go < wr.heap.size:=(Array.getElem?_eq_some_iff.1 HJ.out).1
 have hgo4:=(B4.block go hgtw).trans HJ.out
 have hs4 : (w5.setCell ⟨gx,3,none⟩ (.slice ak' nk ck')).heap.size = w5.heap.size:=by simp [World.setCell]
 have bA:=Ba (w5.setCell ⟨gx,3,none⟩ (.slice ak' nk ck')) (.cells #[.int .i64 dk,.int .i64 dn,.string dt,.slice ak' nk ck'] 54)
 have hnA:=ze (w5.setCell ⟨gx,3,none⟩ (.slice ak' nk ck')) #[.int .i64 dk,.int .i64 dn,.string dt,.slice ak' nk ck'] 54
 rw [hs4] at hnA
 refine ⟨zc hx5 3,za hx5 3,za hblk4 0,za hblk4 1,za hblk4 2,za hblk4 3,za hgo4 0,hnA,(HJ.own.below B4).below bA,hIR4.below bA,fun ad had=>?_,(bA.block go (Nat.lt_of_lt_of_le hgtw B4.size)).trans hgo4,Bt B4 bA⟩
 have:=hown4.lt ad.block (by rw [had];rfl)
 exact ⟨by omega,Nat.lt_of_lt_of_le this.2 bA.size⟩
def xz (a b : Option Nat) : Prop:=∀ x,a = some x -> b = some x -> False
theorem xz.symm {a b : Option Nat} (h : xz a b) : xz b a:=fun x h1 h2=>h x h2 h1
theorem xz.grow {a b : Option Nat} (h : xz a b) {g H : Nat} (hl : a = some g \/ g = H) (hb : ∀ x,b = some x -> x < H) : xz (some g) b:=fun x e1 e2=>by
 cases e1
 rcases hl with h1 | h1
 ·exact h g h1 e2
 ·have:=hb g e2;omega
theorem jk {w w' : World} {base : Nat} {e : TypeId} {k : Nat} {v : Value} {n : Nat} {xs : List Value} {r : Option Nat} (h : w.ownsRow base e k v n xs) (hg : w.grownBy w' r) (ha : xz v.ownBlock r) : w'.ownsRow base e k v n xs:=by
 refine ⟨h.1,?_⟩
 rcases h.2 with h0 | ⟨g,cap,cur,h1,h2,h3,h4⟩
 ·exact .inl h0
 ·subst h1
  exact .inr ⟨g,cap,cur,rfl,h2,(hg.block g (Array.getElem?_eq_some_iff.1 h3).1 (fun e=>ha g rfl e.symm)).trans h3,h4⟩
theorem zcl {w w' : World} {g : Nat} {l : List Int} {r : Option Nat} (h : Blk w g l) (hg : w.grownBy w' r) (ha : xz (some g) r) : Blk w' g l:=(hg.block g h.lt (fun e=>ha g rfl e.symm)).trans h
theorem qs {w : World} {base : Nat} {e : TypeId} {k : Nat} {v : Value} {n : Nat} {xs : List Value} {p : Addr} {u : Value} (h : w.ownsRow base e k v n xs) (ha : v.ownBlock ≠ some p.block) : (w.setCell p u).ownsRow base e k v n xs:=by
 refine ⟨h.1,?_⟩
 rcases h.2 with h0 | ⟨g,cap,cur,h1,h2,h3,h4⟩
 ·exact .inl h0
 ·subst h1
  exact .inr ⟨g,cap,cur,rfl,h2,(Below.heap_setCell _ _ _ _ (fun e=>ha (congrArg some e))).trans h3,h4⟩
def zbl (os : List Nd) : List (Nd × (Option Addr × Nat × Nat)):=os.map fun d=>(d,none,0,0)
theorem zks (os : List Nd) : (zbl os).map Prod.fst = os:=by
 unfold zbl;rw [List.map_map]
 conv=>rhs;rw [<- List.map_id os]
 rfl
theorem qy (os : List Nd) : (zbl os).length = os.length:=by simp [zbl]
theorem zgy (os : List Nd) (d : Nd) : zbl (os ++ [d]) = zbl os ++ [(d,none,0,0)]:=by simp [zbl]
structure RC (w Wb : World) (go gat : Nat) (vN vo vt va : Value) (pt lo la stk : List Int) (os : List Nd) (wr : World) : Prop where
 out : wr.heap[go]? = some (.cells #[vN,.slice none 0 0] 34 (0,0))
 gol : go < Wb.heap.size
 gow : w.heap.size <= go
 keep : ∀ b,b < Wb.heap.size -> b ≠ go -> wr.heap[b]? = Wb.heap[b]?
 bel : Below w.heap.size w wr
 wb : w.heap.size <= Wb.heap.size
 size : Wb.heap.size <= wr.heap.size
 at_ : Blk wr gat pt
 atb : Wb.heap.size <= gat
 old : wr.ownsRow Wb.heap.size 3 1 vo lo.length (cz lo)
 todo : wr.ownsRow Wb.heap.size 3 1 vt stk.length (cz stk)
 atoms : wr.ownsRow Wb.heap.size 3 1 va la.length (cz la)
 nodes : wr.ownsRow Wb.heap.size 54 4 vN os.length (ncs (zbl os))
 nok : ∀ d∈os,NdOk d /\ d.kids = []
 ot : xz vo.ownBlock vt.ownBlock
 oa : xz vo.ownBlock va.ownBlock
 ta : xz vt.ownBlock va.ownBlock
 on : xz vo.ownBlock vN.ownBlock
 tn : xz vt.ownBlock vN.ownBlock
 an : xz va.ownBlock vN.ownBlock
 og : xz vo.ownBlock (some gat)
 tg : xz vt.ownBlock (some gat)
 ag : xz va.ownBlock (some gat)
 ng : xz vN.ownBlock (some gat)
section
variable {w Wb : World} {go gat : Nat} {vN vo vt va : Value} {pt lo la stk : List Int} {os : List Nd} {wr wr' : World}
theorem jz {base : Nat} {e : TypeId} {k : Nat} {v : Value} {n : Nat} {xs : List Value} (h : wr.ownsRow base e k v n xs) : ∀ x,v.ownBlock = some x -> x < wr.heap.size:=fun x hx=>(h.lt x hx).2
theorem RC.on_ (h : RC w Wb go gat vN vo vt va pt lo la stk os wr) (hb : Below wr.heap.size wr wr') : RC w Wb go gat vN vo vt va pt lo la stk os wr' :=
 ⟨(hb.block go (Array.getElem?_eq_some_iff.1 h.out).1).trans h.out,h.gol,h.gow,fun b h1 h2=>(hb.block b (Nat.lt_of_lt_of_le h1 h.size)).trans (h.keep b h1 h2),h.bel.trans (hb.mono h.bel.size),h.wb,Nat.le_trans h.size hb.size,(hb.block gat h.at_.lt).trans h.at_,h.atb,vx h.old hb,vx h.todo hb,vx h.atoms hb,vx h.nodes hb,h.nok,h.ot,h.oa,h.ta,h.on,h.tn,h.an,h.og,h.tg,h.ag,h.ng⟩
theorem RC.setAt (h : RC w Wb go gat vN vo vt va pt lo la stk os wr) (i : Nat) (z : Int) : RC w Wb go gat vN vo vt va (pt.set i z) lo la stk os (wr.setCell ⟨gat,i,none⟩ (.int .i64 z)):=by
 have hg:=h.gol
 have ha:=h.atb
 have hs : (wr.setCell ⟨gat,i,none⟩ (.int .i64 z)).heap.size = wr.heap.size:=by simp [World.setCell]
 have f : ∀ b,b ≠ gat -> (wr.setCell ⟨gat,i,none⟩ (.int .i64 z)).heap[b]? = wr.heap[b]?:=fun b hb=>Below.heap_setCell _ _ _ _ hb
 exact ⟨(f go (by omega)).trans h.out,h.gol,h.gow,fun b h1 h2=>(f b (by omega)).trans (h.keep b h1 h2),h.bel.setCell (p:=⟨gat,i,none⟩) (by show w.heap.size <= gat;have:=h.wb;omega) _,h.wb,by rw [hs];exact h.size,h.at_.set i z,h.atb,
  qs h.old (fun e=>h.og gat e rfl),qs h.todo (fun e=>h.tg gat e rfl),qs h.atoms (fun e=>h.ag gat e rfl),qs h.nodes (fun e=>h.ng gat e rfl),h.nok,h.ot,h.oa,h.ta,h.on,h.tn,h.an,h.og,h.tg,h.ag,h.ng⟩
theorem RC.grown_base (h : RC w Wb go gat vN vo vt va pt lo la stk os wr) {r : Option Nat} (hg : wr.grownBy wr' r) (hr : ∀ x,r = some x -> Wb.heap.size <= x) : wr'.heap[go]? = some (.cells #[vN,.slice none 0 0] 34 (0,0)) /\ (∀ b,b < Wb.heap.size -> b ≠ go -> wr'.heap[b]? = Wb.heap[b]?) /\ Below w.heap.size w wr' /\ Wb.heap.size <= wr'.heap.size:=by
 have hlt:=(Array.getElem?_eq_some_iff.1 h.out).1
 refine ⟨(hg.block go hlt (fun e=>by have:=hr go e.symm;have:=h.gol;omega)).trans h.out,fun b h1 h2=>(hg.block b (Nat.lt_of_lt_of_le h1 h.size) (fun e=>by have:=hr b e.symm;omega)).trans (h.keep b h1 h2),h.bel.trans ((Below.refl _ _).grown hg (Nat.le_trans h.wb h.size) (fun k hk=>Nat.le_trans h.wb (hr k hk))),Nat.le_trans h.size hg.size⟩
theorem RC.pushT (h : RC w Wb go gat vN vo vt va pt lo la stk os wr) {g cap n : Nat} {z : Int} (ho : wr'.ownsRow Wb.heap.size 3 1 (.slice (some ⟨g,0,none⟩) n cap) n (cz (stk ++ [z]))) (hg : wr.grownBy wr' vt.ownBlock) (hl : vt.ownBlock = some g \/ g = wr.heap.size) :
  RC w Wb go gat vN vo (.slice (some ⟨g,0,none⟩) n cap) va pt lo la (stk ++ [z]) os wr':=by
 obtain ⟨b1,b2,b3,b4⟩:=h.grown_base hg (fun x hx=>(h.todo.lt x hx).1)
 have hn : n = (stk ++ [z]).length:=by have:=ho.1;rw [qb] at this;omega
 subst hn
 have hgat : ∀ x,some gat = some x -> x < wr.heap.size:=fun x e=>by cases e;exact h.at_.lt
 exact ⟨b1,h.gol,h.gow,b2,b3,h.wb,b4,zcl h.at_ hg h.tg.symm,h.atb,jk h.old hg h.ot,ho,jk h.atoms hg h.ta.symm,jk h.nodes hg h.tn.symm,h.nok,(h.ot.symm.grow hl (jz h.old)).symm,h.oa,h.ta.grow hl (jz h.atoms),h.on,h.tn.grow hl (jz h.nodes),h.an,h.og,h.tg.grow hl hgat,h.ag,h.ng⟩
theorem RC.pushO (h : RC w Wb go gat vN vo vt va pt lo la stk os wr) {g cap n : Nat} {z : Int} (ho : wr'.ownsRow Wb.heap.size 3 1 (.slice (some ⟨g,0,none⟩) n cap) n (cz (lo ++ [z]))) (hg : wr.grownBy wr' vo.ownBlock) (hl : vo.ownBlock = some g \/ g = wr.heap.size) :
  RC w Wb go gat vN (.slice (some ⟨g,0,none⟩) n cap) vt va pt (lo ++ [z]) la stk os wr':=by
 obtain ⟨b1,b2,b3,b4⟩:=h.grown_base hg (fun x hx=>(h.old.lt x hx).1)
 have hn : n = (lo ++ [z]).length:=by have:=ho.1;rw [qb] at this;omega
 subst hn
 have hgat : ∀ x,some gat = some x -> x < wr.heap.size:=fun x e=>by cases e;exact h.at_.lt
 exact ⟨b1,h.gol,h.gow,b2,b3,h.wb,b4,zcl h.at_ hg h.og.symm,h.atb,ho,jk h.todo hg h.ot.symm,jk h.atoms hg h.oa.symm,jk h.nodes hg h.on.symm,h.nok,h.ot.grow hl (jz h.todo),h.oa.grow hl (jz h.atoms),h.ta,h.on.grow hl (jz h.nodes),h.tn,h.an,h.og.grow hl hgat,h.tg,h.ag,h.ng⟩
theorem RC.pushA (h : RC w Wb go gat vN vo vt va pt lo la stk os wr) {g cap n : Nat} {z : Int} (ho : wr'.ownsRow Wb.heap.size 3 1 (.slice (some ⟨g,0,none⟩) n cap) n (cz (la ++ [z]))) (hg : wr.grownBy wr' va.ownBlock) (hl : va.ownBlock = some g \/ g = wr.heap.size) :
  RC w Wb go gat vN vo vt (.slice (some ⟨g,0,none⟩) n cap) pt lo (la ++ [z]) stk os wr':=by
 obtain ⟨b1,b2,b3,b4⟩:=h.grown_base hg (fun x hx=>(h.atoms.lt x hx).1)
 have hn : n = (la ++ [z]).length:=by have:=ho.1;rw [qb] at this;omega
 subst hn
 have hgat : ∀ x,some gat = some x -> x < wr.heap.size:=fun x e=>by cases e;exact h.at_.lt
 exact ⟨b1,h.gol,h.gow,b2,b3,h.wb,b4,zcl h.at_ hg h.ag.symm,h.atb,jk h.old hg h.oa,jk h.todo hg h.ta,ho,jk h.nodes hg h.an.symm,h.nok,h.ot,(h.oa.symm.grow hl (jz h.old)).symm,(h.ta.symm.grow hl (jz h.todo)).symm,h.on,h.tn,h.an.grow hl (jz h.nodes),h.og,h.tg,h.ag.grow hl hgat,h.ng⟩
theorem RC.pushN (h : RC w Wb go gat vN vo vt va pt lo la stk os wr) {g cap n : Nat} {d : Nd} (hd : NdOk d /\ d.kids = []) (ho : wr'.ownsRow Wb.heap.size 54 4 (.slice (some ⟨g,0,none⟩) n cap) n (ncs (zbl os) ++ nc (d,none,0,0))) (hg : wr.grownBy wr' vN.ownBlock) (hl : vN.ownBlock = some g \/ g = wr.heap.size) :
  RC w Wb go gat (.slice (some ⟨g,0,none⟩) n cap) vo vt va pt lo la stk (os ++ [d]) (wr'.setCell ⟨go,0,none⟩ (.slice (some ⟨g,0,none⟩) n cap)):=by
 obtain ⟨b1,b2,b3,b4⟩:=h.grown_base hg (fun x hx=>(h.nodes.lt x hx).1)
 have hn : n = (os ++ [d]).length:=by have:=ho.1;rw [<- zdu,<- zgy,zgh,qy] at this;omega
 subst hn
 have hgat : ∀ x,some gat = some x -> x < wr.heap.size:=fun x e=>by cases e;exact h.at_.lt
 have hs : (wr'.setCell ⟨go,0,none⟩ (.slice (some ⟨g,0,none⟩) (os ++ [d]).length cap)).heap.size = wr'.heap.size:=by simp [World.setCell]
 have hgl:=h.gol
 have ne : ∀ {e : TypeId} {k n : Nat} {v : Value} {xs : List Value},wr'.ownsRow Wb.heap.size e k v n xs -> v.ownBlock ≠ some go:=fun ho e=>by have:=(ho.lt go e).1;omega
 have o1:=jk h.old hg h.on
 have o2:=jk h.todo hg h.tn
 have o3:=jk h.atoms hg h.an
 refine ⟨?_,h.gol,h.gow,fun b h1 h2=>(Below.heap_setCell _ _ _ _ h2).trans (b2 b h1 h2),b3.setCell (p:=⟨go,0,none⟩) h.gow _,h.wb,by rw [hs];exact b4,(Below.heap_setCell _ _ _ _ (by show gat ≠ go;have:=h.atb;omega)).trans (zcl h.at_ hg h.ng.symm),h.atb,
  qs o1 (ne o1),qs o2 (ne o2),qs o3 (ne o3),?_,?_,h.ot,h.oa,h.ta,(h.on.symm.grow hl (jz h.old)).symm,(h.tn.symm.grow hl (jz h.todo)).symm,(h.an.symm.grow hl (jz h.atoms)).symm,h.og,h.tg,h.ag,h.ng.grow hl hgat⟩
 ·have:=zq (i:=0) b1 (.slice (some ⟨g,0,none⟩) (os ++ [d]).length cap);rw [this];rfl
 ·rw [zgy,zdu];exact qs ho (ne ho)
 ·intro x hx
  rcases List.mem_append.1 hx with hx | hx
  ·exact h.nok x hx
  ·obtain rfl : x = d := by simpa using hx
   exact hd
theorem RC.popT {g n m cap : Nat} (h : RC w Wb go gat vN vo (.slice (some ⟨g,0,none⟩) n cap) va pt lo la stk os wr) (hn : n = stk.length) (hm : m <= n) : RC w Wb go gat vN vo (.slice (some ⟨g,0,none⟩) m cap) va pt lo la (stk.take m) os wr:=by
 subst hn
 have ht : wr.ownsRow Wb.heap.size 3 1 (.slice (some ⟨g,0,none⟩) m cap) (stk.take m).length (cz (stk.take m)):=by
  have:=zjs h.todo hm
  have e : (cz stk).take m = cz (stk.take m):=by unfold cz;rw [List.map_take]
  rw [e] at this
  rw [List.length_take,Nat.min_eq_left hm];exact this
 exact ⟨h.out,h.gol,h.gow,h.keep,h.bel,h.wb,h.size,h.at_,h.atb,h.old,ht,h.atoms,h.nodes,h.nok,h.ot,h.oa,h.ta,h.on,h.tn,h.an,h.og,h.tg,h.ag,h.ng⟩
theorem RC.nrow (h : RC w Wb go gat vN vo vt va pt lo la stk os wr) : ∃ ao cap,vN = .slice ao os.length cap /\ NRow wr ao os.length cap os:=by
 have hN : NOwn Wb.heap.size wr vN (zbl os):=by
  refine ⟨by rw [qy];exact h.nodes,fun x hx=>?_,fun x hx=>?_⟩
  ·obtain ⟨d, hd, rfl⟩ := List.mem_map.1 hx
   exact ⟨by rw [(h.nok d hd).2];exact IRow.nil _ _,fun ad had=>by cases had⟩
  ·obtain ⟨d, hd, rfl⟩ := List.mem_map.1 hx
   exact (h.nok d hd).1
 obtain ⟨ao,cap,e,hr⟩:=hN.row
 rw [zks] at hr
 rw [qy] at e hr
 exact ⟨ao,cap,e,hr⟩
end
end Go.Proofs.YticimejfjjmikaaGreatDoor
