import Derived.Test.YticimejfjjmikaaGreatDoorM6
import Derived.Test.YticimejfjjmikaaGreatDoorG3
import Derived.Test.YticimejfjjmikaaGreatDoorM2
import Derived.Test.YticimejfjjmikaaGreatDoorW20
import Derived.Test.YticimejfjjmikaaGreatDoorV3
import Derived.Test.YticimejfjjmikaaGreatDoorG13
import Derived.Test.YticimejfjjmikaaGreatDoorQ1
import Derived.Test.YticimejfjjmikaaGreatDoorSG1
import Derived.Test.YticimejfjjmikaaGreatDoorW22
set_option linter.unusedVariables false
set_option linter.unusedSimpArgs false
namespace Go.Proofs.YticimejfjjmikaaGreatDoor
open Go.RowKit
def atomsL (ns : List Nd) : List Int -> Nat -> List Int
 | [],_=>[]
 | o :: ord,k=>if atomB (ns.getD o.toNat default).kind = true then (k : Int) :: atomsL ns ord (k + 1) else atomsL ns ord (k + 1)
theorem atomsL_snoc (ns : List Nd) (o : Int) : ∀ (ord : List Int) (k : Nat),atomsL ns (ord ++ [o]) k = atomsL ns ord k ++ (if atomB (ns.getD o.toNat default).kind = true then [((k + ord.length : Nat) : Int)] else [])
 | [],k=>by simp [atomsL]
 | x :: ord,k=>by
  have ih:=atomsL_snoc ns o ord (k + 1)
  simp only [List.cons_append,atomsL,ih,List.length_cons]
  have e : k + 1 + ord.length = k + (ord.length + 1):=by omega
  rw [e]
  split <;> simp
theorem atomsL_rng (ns : List Nd) : ∀ (ord : List Int) (k : Nat),∀ z∈atomsL ns ord k,(k : Int) <= z /\ z < k + ord.length
 | [],k,z,h=>by simp [atomsL] at h
 | x :: ord, k, z, h => by
  have ih:=atomsL_rng ns ord (k + 1)
  simp only [atomsL] at h
  have hs : z∈atomsL ns ord (k + 1) -> (k : Int) <= z /\ z < k + ((x :: ord).length : Nat):=fun h=>by
   have:=ih z h;simp;omega
  split at h
  ·rcases List.mem_cons.1 h with rfl | h
   ·simp;omega
   ·exact hs h
  ·exact hs h
theorem atomsL_len (ns : List Nd) : ∀ (ord : List Int) (k : Nat),(atomsL ns ord k).length <= ord.length
 | [],k=>by simp [atomsL]
 | x :: ord,k=>by
  have ih:=atomsL_len ns ord (k + 1)
  simp only [atomsL];split <;> simp <;> omega
def sameAt (ns : List Nd) (ord : List Int) (d : Nd) (z : Int) : Bool:=decide (sameA (ns.getD (ord.getD z.toNat 0).toNat default) d)
theorem findA_atoms_go (ns : List Nd) (d : Nd) (all : List Int) : ∀ (ord : List Int) (k : Nat),(∀ j,j < ord.length -> all.getD (k + j) 0 = ord.getD j 0) ->
  ((findA ns ord d).map fun j=>((k + j : Nat) : Int)) = (atomsL ns ord k).find? (sameAt ns all d)
 | [],k,_=>by simp [findA,atomsL]
 | o :: ord, k, h => by
  have h0:=h 0 (by simp)
  rw [Nat.add_zero] at h0
  have ih:=findA_atoms_go ns d all ord (k + 1) (fun j hj=>by have:=h (j + 1) (by simpa using hj);rw [show k + 1 + j = k + (j + 1) by omega];rw [this];simp)
  have hsame : sameAt ns all d (k : Int) = decide (sameA (ns.getD o.toNat default) d):=by unfold sameAt;rw [Int.toNat_natCast,h0];rfl
  unfold findA at *
  rw [List.findIdx?_cons,atomsL]
  by_cases ha : atomB (ns.getD o.toNat default).kind = true
  ·rw [if_pos ha, List.find?_cons, hsame, ha, Bool.true_and]
   by_cases hs : sameA (ns.getD o.toNat default) d
   ·rw [decide_eq_true hs];simp
   ·rw [decide_eq_false hs]
    simp only [Bool.false_eq_true,if_false]
    rw [<- ih,Option.map_map]
    congr 1
    funext j;simp;omega
  ·rw [if_neg ha, Bool.eq_false_iff.2 ha, Bool.false_and]
   simp only [Bool.false_eq_true,if_false]
   rw [<- ih,Option.map_map]
   congr 1
   funext j;simp;omega
theorem findA_atoms (ns : List Nd) (ord : List Int) (d : Nd) : ((findA ns ord d).map fun (j : Nat)=>(j : Int)) = (atomsL ns ord 0).find? (sameAt ns ord d):=by
 have:=findA_atoms_go ns d ord ord 0 (fun j _=>by rw [Nat.zero_add])
 simp only [Nat.zero_add] at this
 exact this
theorem rmetS_self {ns : List Nd} {pt ord : List Int} {n : Nat} (h : 0 <= pt.getD n 0 \/ atomB (ns.getD n default).kind = false) : rmetS ns pt ord n = pt.getD n 0:=by unfold rmetS;rw [if_pos h]
theorem rmetS_some {ns : List Nd} {pt ord : List Int} {n : Nat} {z : Int} (h : ¬ (0 <= pt.getD n 0 \/ atomB (ns.getD n default).kind = false)) (hf : (atomsL ns ord 0).find? (sameAt ns ord (ns.getD n default)) = some z) : rmetS ns pt ord n = z:=by
 unfold rmetS;rw [if_neg h]
 rw [<- findA_atoms] at hf
 cases hq : findA ns ord (ns.getD n default) with
 | none=>rw [hq] at hf;cases hf
 | some j=>rw [hq] at hf;exact Option.some.inj hf
theorem rmetS_none {ns : List Nd} {pt ord : List Int} {n : Nat} (h : ¬ (0 <= pt.getD n 0 \/ atomB (ns.getD n default).kind = false)) (hf : (atomsL ns ord 0).find? (sameAt ns ord (ns.getD n default)) = none) : rmetS ns pt ord n = -1:=by
 unfold rmetS;rw [if_neg h]
 rw [<- findA_atoms] at hf
 cases hq : findA ns ord (ns.getD n default) with
 | none=>rfl
 | some j=>rw [hq] at hf;cases hf
theorem find_take {l : List Int} {p : Int -> Bool} {m : Nat} (hm : m < l.length) (h : (l.take m).find? p = none) : (p (l.getD m 0) = true -> l.find? p = some (l.getD m 0)) /\ (p (l.getD m 0) = false -> (l.take (m + 1)).find? p = none):=by
 have e : l.getD m 0 = l[m]:=by rw [List.getD_eq_getElem?_getD,List.getElem?_eq_getElem hm];rfl
 constructor
 ·intro hp
  have h2 : l = l.take m ++ l.drop m:=(List.take_append_drop m l).symm
  rw [h2,List.find?_append,h]
  rw [<- h2,e]
  rw [List.drop_eq_getElem_cons hm,List.find?_cons,<- e,hp];simp
 ·intro hp
  rw [List.take_succ_eq_append_getElem hm,List.find?_append,h,<- e,List.find?_cons,hp];rfl
set_option maxRecDepth 100000
instance : DecidableEq Nd:=fun a b=>decidable_of_iff (a.kind = b.kind /\ a.num = b.num /\ a.text = b.text /\ a.kids = b.kids) (by cases a;cases b;simp)
theorem take_succ_of {α : Type} (d : α) {l : List α} {m : Nat} (h : m < l.length) : l.take (m + 1) = l.take m ++ [l.getD m d]:=by
 rw [List.take_succ_eq_append_getElem h,List.getD_eq_getElem?_getD,List.getElem?_eq_getElem h];rfl
structure GOk (w : World) (an : Option Addr) (nn cn : Nat) (ar : Option Addr) (nr cr : Nat) (ns : List Nd) (rs : List Int) : Prop where
 is : GIs w an nn cn ar nr cr ns rs
 small : smallG ns
 kids : ∀ d∈ns,d.kids.length <= 100
 nn_le : nn <= 2500
 nr_le : nr <= 2500
theorem GOk.below {w w' : World} {an ar : Option Addr} {nn cn nr cr : Nat} {ns : List Nd} {rs : List Int} (h : GOk w an nn cn ar nr cr ns rs) (hb : Below w.heap.size w w') : GOk w' an nn cn ar nr cr ns rs:=⟨h.is.below hb,h.small,h.kids,h.nn_le,h.nr_le⟩
def canonN (ns : List Nd) (rs : List Int) : List Nd × List Int:=canonG ns rs 300001
structure MetIn (w : World) (oa : Option Addr) (on oc : Nat) (os : List Nd) (ta : Option Addr) (tc : Nat) (pt : List Int) (sa : Option Addr) (sn sc : Nat) (ns : List Nd) (ord : List Int) (an : Option Addr) (nn cn : Nat) : Prop where
 out : NRow w oa on oc os
 olen : on = ord.length
 osame : ∀ j,j < ord.length -> sameA (os.getD j default) (ns.getD (ord.getD j 0).toNat default)
 pt_ : IRow w ta nn tc pt
 atoms : IRow w sa sn sc (atomsL ns ord 0)
 nodes : NRow w an nn cn ns
 small : nn <= 2500 /\ on <= 2500
set_option maxHeartbeats 4000000 in
theorem rmet_any (oa : Option Addr) (on oc : Nat) (xa : Option Addr) (xn xc : Nat) (os : List Nd) (ta : Option Addr) (tc : Nat) (pt : List Int) (sa : Option Addr) (sn sc : Nat) (ns : List Nd) (ord : List Int) (an : Option Addr) (nn cn : Nat) (ar : Option Addr) (nr cr : Nat) (n : Nat) (hn : n < nn) (w : World) (M : MetIn w oa on oc os ta tc pt sa sn sc ns ord an nn cn) :
  Calls Tryz.prog 45 #[.agg #[.slice oa on oc,.slice xa xn xc],.slice ta nn tc,.slice sa sn sc,.agg #[.slice an nn cn,.slice ar nr cr],.int .i64 (n : Int)] w fun e w'=>e = .returned (.int .i64 (rmetS ns pt ord n)) /\ Below w.heap.size w w':=by
 have HM:=hid M
 have hm1:=M.small
 have ht1:=M.pt_.fits
 have ht2:=M.pt_.most
 have hs1:=M.atoms.fits
 have hs2:=M.atoms.most
 have hn1:=M.nodes.fits
 have hn2:=M.nodes.most
 have ho1:=M.out.fits
 have ho2:=M.out.most
 have HSL:=hid M.atoms.len
 have HOL:=hid M.olen
 unfold maxLen at ht2 hs2 hn2 ho2
 obtain ⟨hm1,hm2⟩:=hm1
 obtain ⟨bt,ot,rfl,hlt,hct⟩:=M.pt_.some (by omega)
 obtain ⟨bn,on',rfl,hln,hcn⟩:=M.nodes.some (by omega)
 have c1:=hct n hn
 obtain ⟨j1,j2,j3,ak,nk,ck,j4,j5⟩:=hcn n hn
 obtain ⟨p,hp⟩ : ∃ p,p = pt.getD n 0:=⟨_,rfl⟩
 obtain ⟨d,hd⟩ : ∃ d,d = ns.getD n default:=⟨_,rfl⟩
 rw [<- hp] at c1
 rw [<- hd] at j1 j2 j3 j5
 obtain ⟨dk,dn,dt,dl⟩:=d
 simp only [] at j1 j2 j3 j5
 have HP:=hid hp
 have HD:=hid hd
 have bA:=Baa w (.cells #[.slice oa on oc,.slice xa xn xc] 34) (.cells #[.slice (some ⟨bn,on',none⟩) nn cn,.slice ar nr cr] 34)
 have c1':=(bA.cell (p:=⟨bt,ot + n,none⟩) hlt).trans c1
 have j1':=(bA.cell (p:=⟨bn,on' + n * 4,none⟩) hln).trans j1
 have j2':=(bA.cell (p:=⟨bn,on' + n * 4 + 1,none⟩) hln).trans j2
 have j3':=(bA.cell (p:=⟨bn,on' + n * 4 + 2,none⟩) hln).trans j3
 have j4':=(bA.cell (p:=⟨bn,on' + n * 4 + 3,none⟩) hln).trans j4
 have HBA:=hid bA
 clear M hct hcn c1 j1 j2 j3 j4 j5 hp hd bA
 by_cases hp0 : 0 <= p
 ·have e0 : decide (0 <= p) = true := by simp [hp0]
  go_enter Tryz.func45,Tryz.ntmps45
  go_wp2
  go_ret
  exact ⟨by rw [rmetS_self (.inl (by rw [<- HP.out];exact hp0)),<- HP.out];rfl,HBA.out⟩
 ·have e0 : decide (0 <= p) = false := by simp [hp0]
  go_enter Tryz.func45,Tryz.ntmps45
  go_wp2_with fail
  refine (ratom_any dk _).mono ?_
  rintro e w7 ⟨rfl,hw7⟩
  subst hw7
  cases ha : atomB dk
  ·go_wp2
   go_ret
   exact ⟨by rw [rmetS_self (.inr (by rw [<- HD.out];exact ha)),<- HP.out];rfl,HBA.out⟩
  ·have HNS : Hid (¬ (0 <= pt.getD n 0 \/ atomB (ns.getD n default).kind = false)) := by unfold Hid; rw [<- HP.out, <- HD.out]; simp [hp0, ha]
   go_wp2_with fail
   have bB : Below w.heap.size w (allocs w [(.cells #[.slice oa on oc,.slice xa xn xc] 34),(.cells #[.slice (some ⟨bn,on',none⟩) nn cn,.slice ar nr cr] 34),(.cells #[.int .i64 dk,.int .i64 dn,.string dt,.slice ak nk ck] 54)]):=allocs_below _ _
   have x0 : (allocs w [(.cells #[.slice oa on oc,.slice xa xn xc] 34),(.cells #[.slice (some ⟨bn,on',none⟩) nn cn,.slice ar nr cr] 34),(.cells #[.int .i64 dk,.int .i64 dn,.string dt,.slice ak nk ck] 54)]).heap[w.heap.size]? = some (.cells #[.slice oa on oc,.slice xa xn xc] 34 (0,0)):=allocs_get (i:=0) rfl
   have x2 : (allocs w [(.cells #[.slice oa on oc,.slice xa xn xc] 34),(.cells #[.slice (some ⟨bn,on',none⟩) nn cn,.slice ar nr cr] 34),(.cells #[.int .i64 dk,.int .i64 dn,.string dt,.slice ak nk ck] 54)]).heap[w.heap.size + 1 + 1]? = some (.cells #[.int .i64 dk,.int .i64 dn,.string dt,.slice ak nk ck] 54 (0,0)):=allocs_get (i:=2) rfl
   have hWW : allocs w [(.cells #[.slice oa on oc,.slice xa xn xc] 34),(.cells #[.slice (some ⟨bn,on',none⟩) nn cn,.slice ar nr cr] 34),(.cells #[.int .i64 dk,.int .i64 dn,.string dt,.slice ak nk ck] 54)] = ((w.alloc (.cells #[.slice oa on oc,.slice xa xn xc] 34)).alloc (.cells #[.slice (some ⟨bn,on',none⟩) nn cn,.slice ar nr cr] 34)).alloc (.cells #[.int .i64 dk,.int .i64 dn,.string dt,.slice ak nk ck] 54):=rfl
   rw [<- hWW]
   clear hWW
   generalize allocs w [(.cells #[.slice oa on oc,.slice xa xn xc] 34),(.cells #[.slice (some ⟨bn,on',none⟩) nn cn,.slice ar nr cr] 34),(.cells #[.int .i64 dk,.int .i64 dn,.string dt,.slice ak nk ck] 54)] = W2 at *
   obtain ⟨gx,hgx⟩ : ∃ g,g = w.heap.size + 1 + 1:=⟨_,rfl⟩
   obtain ⟨g1,hg1⟩ : ∃ g,g = w.heap.size + 1:=⟨_,rfl⟩
   obtain ⟨g0,hg0⟩ : ∃ g,g = w.heap.size:=⟨_,rfl⟩
   rw [<- hgx] at x2
   rw [<- hg0] at x0
   rw [<- hgx,<- hg1,<- hg0]
   have HB:=hid bB
   have X0:=hid x0
   have X2:=hid x2
   clear hgx hg1 hg0 bB x0 x2 c1' j1' j2' j3' j4' HBA
   go_loopw [12] (fun i wr=>∃ m : Nat,m <= sn /\ i = .int .i64 m /\ Hid (((atomsL ns ord 0).take m).find? (sameAt ns ord ⟨dk,dn,dt,dl⟩) = none /\ Below W2.heap.size W2 wr)) (fun i _=>sn - (intOf i).toNat)
   case atStart=>exact ⟨0,Nat.zero_le _,rfl,rfl,Below.refl _ _⟩
   case round =>
    obtain ⟨m,hmn,rfl,hI⟩:=hrel
    obtain ⟨hf,hb⟩:=hI.out
    have HF:=hid hf
    have HBR:=hid hb
    clear hf hI
    by_cases hlm : m < sn
    ·obtain ⟨bs, os', rfl, hls, hcs⟩ := HM.out.atoms.some (by omega)
     have hml : m < (atomsL ns ord 0).length:=by have:=HSL.out;omega
     obtain ⟨z,hz⟩ : ∃ z,z = (atomsL ns ord 0).getD m 0:=⟨_,rfl⟩
     have hzr:=atomsL_rng ns ord 0 z (by rw [hz,List.getD_eq_getElem?_getD,List.getElem?_eq_getElem hml];exact List.getElem_mem hml)
     obtain ⟨kn,rfl⟩:=Int.eq_ofNat_of_zero_le (by omega : 0 <= z)
     have hkn : kn < on:=by have:=HOL.out;omega
     have HZ:=hid hz
     obtain ⟨bo,oo,rfl,hlo,hco⟩:=HM.out.out.some (by omega)
     have bW : Below w.heap.size w wr:=Bt HB.out hb
     have cz0 : wr.cell? ⟨bs,os' + m,none⟩ = some (.int .i64 (kn : Int)):=by rw [hz];exact (bW.cell (p:=⟨bs,os' + m,none⟩) hls).trans (hcs m hlm)
     have hnd:=(hco kn hkn).below hlo bW
     have hos:=HM.out.osame kn (by have:=HOL.out;omega)
     obtain ⟨e,he⟩ : ∃ e,e = os.getD kn default:=⟨_,rfl⟩
     rw [<- he] at hnd hos
     obtain ⟨i1,i2,i3,ae,ne,ce,i4,_⟩:=hnd
     obtain ⟨ek,en,et,el⟩:=e
     simp only [] at i1 i2 i3
     have hP : Hid (sameAt ns ord ⟨dk,dn,dt,dl⟩ ((atomsL ns ord 0).getD m 0) = decide (ek = dk /\ en = dn /\ et = dt)):=by
      unfold Hid sameAt
      rw [<- hz,Int.toNat_natCast]
      exact decide_sameA hos.symm (sameA.rfl' _)
     obtain ⟨y0,y1⟩:=(GBox.on (t:=34) (p:=g0) X0.out hb).c
     have X2r:=(hb.block gx (Array.getElem?_eq_some_iff.1 X2.out).1).trans X2.out
     have y2 : wr.cell? ⟨gx,0,none⟩ = some (.int .i64 dk):=blk_cell X2r 0
     have y3 : wr.cell? ⟨gx,1,none⟩ = some (.int .i64 dn):=blk_cell X2r 1
     have y4 : wr.cell? ⟨gx,2,none⟩ = some (.string dt):=blk_cell X2r 2
     clear hz hcs hco he hos hb bW X2r hzr
     by_cases hne : ek = dk
     ·subst hne
      by_cases hne : en = dn
      ·subst hne
       by_cases hne : et = dt
       ·subst hne
        have e1 : (ek == ek) = true:=by simp
        have e2 : (en == en) = true:=by simp
        have e3 : (et.toList == et.toList) = true:=by simp
        go_wp2_with fail
        go_quiet (fail)
        have HBQ:=hid (Bt HBR.out (Bd wr nq))
        go_wp2
        go_ret
        refine ⟨?_,Bt HB.out HBQ.out⟩
        have h1:=(find_take hml HF.out).1 (by rw [hP.out];simp)
        rw [<- HZ.out] at h1
        rw [rmetS_some HNS.out (by rw [<- HD.out];exact h1)];rfl
       ·have e1 : (ek == ek) = true := by simp
        have e2 : (en == en) = true:=by simp
        have e3 : (et.toList == dt.toList) = false:=by rw [str_eq];simp [hne]
        go_wp2_with fail
        go_quiet (fail)
        have HBQ:=hid (Bt HBR.out (Bd wr nq))
        go_wp2
        refine ⟨⟨m + 1,by omega,by go_num,(find_take hml HF.out).2 (by rw [hP.out];simp [hne]),HBQ.out⟩,by simp [intOf] <;> omega⟩
      ·have e1 : (ek == ek) = true := by simp
       have e2 : (en == dn) = false:=by simp [hne]
       go_wp2_with fail
       go_quiet (fail)
       have HBQ:=hid (Bt HBR.out (Bd wr nq))
       go_wp2
       refine ⟨⟨m + 1,by omega,by go_num,(find_take hml HF.out).2 (by rw [hP.out];simp [hne]),HBQ.out⟩,by simp [intOf] <;> omega⟩
     ·have e1 : (ek == dk) = false := by simp [hne]
      go_wp2_with fail
      go_quiet (fail)
      have HBQ:=hid (Bt HBR.out (Bd wr nq))
      go_wp2
      refine ⟨⟨m + 1,by omega,by go_num,(find_take hml HF.out).2 (by rw [hP.out];simp [hne]),HBQ.out⟩,by simp [intOf] <;> omega⟩
    ·obtain rfl : sn = m := by omega
     go_wp2
     go_ret
     refine ⟨?_,Bt HB.out HBR.out⟩
     have h1:=HF.out
     rw [List.take_of_length_le (by have:=HSL.out;omega)] at h1
     rw [rmetS_none HNS.out (by rw [<- HD.out];exact h1)];rfl
theorem owns_on {w w' : World} {base : Nat} {e : TypeId} {k : Nat} {v : Value} {n : Nat} {xs : List Value} (h : w.ownsRow base e k v n xs) (hb : Below w.heap.size w w') : w'.ownsRow base e k v n xs:=by
 refine ⟨h.1,?_⟩
 rcases h.2 with h0 | ⟨g,cap,cur,h1,h2,h3,h4⟩
 ·exact .inl h0
 ·exact .inr ⟨g,cap,cur,h1,h2,(hb.block g (Array.getElem?_eq_some_iff.1 h3).1).trans h3,h4⟩
def Mjn (s : Nat × Bool) : Nat:=(2 - s.1) + (if s.2 then 0 else 1)
def Apart (a b : Option Nat) : Prop:=∀ x,a = some x -> b = some x -> False
theorem Apart.symm {a b : Option Nat} (h : Apart a b) : Apart b a:=fun x h1 h2=>h x h2 h1
theorem Apart.grow {a b : Option Nat} (h : Apart a b) {g H : Nat} (hl : a = some g \/ g = H) (hb : ∀ x,b = some x -> x < H) : Apart (some g) b:=fun x e1 e2=>by
 cases e1
 rcases hl with h1 | h1
 ·exact h g h1 e2
 ·have:=hb g e2;omega
theorem owns_grown {w w' : World} {base : Nat} {e : TypeId} {k : Nat} {v : Value} {n : Nat} {xs : List Value} {r : Option Nat} (h : w.ownsRow base e k v n xs) (hg : w.grownBy w' r) (ha : Apart v.ownBlock r) : w'.ownsRow base e k v n xs:=by
 refine ⟨h.1,?_⟩
 rcases h.2 with h0 | ⟨g,cap,cur,h1,h2,h3,h4⟩
 ·exact .inl h0
 ·subst h1
  exact .inr ⟨g,cap,cur,rfl,h2,(hg.block g (Array.getElem?_eq_some_iff.1 h3).1 (fun e=>ha g rfl e.symm)).trans h3,h4⟩
theorem blk_grown {w w' : World} {g : Nat} {l : List Int} {r : Option Nat} (h : Blk w g l) (hg : w.grownBy w' r) (ha : Apart (some g) r) : Blk w' g l:=(hg.block g h.lt (fun e=>ha g rfl e.symm)).trans h
theorem owns_afar {w : World} {base : Nat} {e : TypeId} {k : Nat} {v : Value} {n : Nat} {xs : List Value} {p : Addr} {u : Value} (h : w.ownsRow base e k v n xs) (ha : v.ownBlock ≠ some p.block) : (w.setCell p u).ownsRow base e k v n xs:=by
 refine ⟨h.1,?_⟩
 rcases h.2 with h0 | ⟨g,cap,cur,h1,h2,h3,h4⟩
 ·exact .inl h0
 ·subst h1
  exact .inr ⟨g,cap,cur,rfl,h2,(Below.heap_setCell _ _ _ _ (fun e=>ha (congrArg some e))).trans h3,h4⟩
def bares (os : List Nd) : List (Nd × (Option Addr × Nat × Nat)):=os.map fun d=>(d,none,0,0)
theorem bares_fst (os : List Nd) : (bares os).map Prod.fst = os:=by
 unfold bares;rw [List.map_map]
 conv=>rhs;rw [<- List.map_id os]
 rfl
theorem bares_length (os : List Nd) : (bares os).length = os.length:=by simp [bares]
theorem bares_snoc (os : List Nd) (d : Nd) : bares (os ++ [d]) = bares os ++ [(d,none,0,0)]:=by simp [bares]
structure RC (w Wb : World) (go gat : Nat) (vN vo vt va : Value) (pt lo la stk : List Int) (os : List Nd) (wr : World) : Prop where
 out : wr.heap[go]? = some (.cells #[vN,.slice none 0 0] 34 (0,0))
 gol : go < Wb.heap.size
 gow : w.heap.size <= go
 keep : ∀ b,b < Wb.heap.size -> b ≠ go -> wr.heap[b]? = Wb.heap[b]?
 bel : Below w.heap.size w wr
 wb : w.heap.size <= Wb.heap.size
 size : Wb.heap.size <= wr.heap.size
 at_ : Blk wr gat pt
 atb : Wb.heap.size <= gat
 old : wr.ownsRow Wb.heap.size 3 1 vo lo.length (cz lo)
 todo : wr.ownsRow Wb.heap.size 3 1 vt stk.length (cz stk)
 atoms : wr.ownsRow Wb.heap.size 3 1 va la.length (cz la)
 nodes : wr.ownsRow Wb.heap.size 54 4 vN os.length (ncs (bares os))
 nok : ∀ d∈os,NdOk d /\ d.kids = []
 ot : Apart vo.ownBlock vt.ownBlock
 oa : Apart vo.ownBlock va.ownBlock
 ta : Apart vt.ownBlock va.ownBlock
 on : Apart vo.ownBlock vN.ownBlock
 tn : Apart vt.ownBlock vN.ownBlock
 an : Apart va.ownBlock vN.ownBlock
 og : Apart vo.ownBlock (some gat)
 tg : Apart vt.ownBlock (some gat)
 ag : Apart va.ownBlock (some gat)
 ng : Apart vN.ownBlock (some gat)
section
variable {w Wb : World} {go gat : Nat} {vN vo vt va : Value} {pt lo la stk : List Int} {os : List Nd} {wr wr' : World}
theorem own_below {base : Nat} {e : TypeId} {k : Nat} {v : Value} {n : Nat} {xs : List Value} (h : wr.ownsRow base e k v n xs) : ∀ x,v.ownBlock = some x -> x < wr.heap.size:=fun x hx=>(h.lt x hx).2
theorem RC.on_ (h : RC w Wb go gat vN vo vt va pt lo la stk os wr) (hb : Below wr.heap.size wr wr') : RC w Wb go gat vN vo vt va pt lo la stk os wr' :=
 ⟨(hb.block go (Array.getElem?_eq_some_iff.1 h.out).1).trans h.out,h.gol,h.gow,fun b h1 h2=>(hb.block b (Nat.lt_of_lt_of_le h1 h.size)).trans (h.keep b h1 h2),h.bel.trans (hb.mono h.bel.size),h.wb,Nat.le_trans h.size hb.size,(hb.block gat h.at_.lt).trans h.at_,h.atb,owns_on h.old hb,owns_on h.todo hb,owns_on h.atoms hb,owns_on h.nodes hb,h.nok,h.ot,h.oa,h.ta,h.on,h.tn,h.an,h.og,h.tg,h.ag,h.ng⟩
theorem RC.setAt (h : RC w Wb go gat vN vo vt va pt lo la stk os wr) (i : Nat) (z : Int) : RC w Wb go gat vN vo vt va (pt.set i z) lo la stk os (wr.setCell ⟨gat,i,none⟩ (.int .i64 z)):=by
 have hg:=h.gol
 have ha:=h.atb
 have hs : (wr.setCell ⟨gat,i,none⟩ (.int .i64 z)).heap.size = wr.heap.size:=by simp [World.setCell]
 have f : ∀ b,b ≠ gat -> (wr.setCell ⟨gat,i,none⟩ (.int .i64 z)).heap[b]? = wr.heap[b]?:=fun b hb=>Below.heap_setCell _ _ _ _ hb
 exact ⟨(f go (by omega)).trans h.out,h.gol,h.gow,fun b h1 h2=>(f b (by omega)).trans (h.keep b h1 h2),h.bel.setCell (p:=⟨gat,i,none⟩) (by show w.heap.size <= gat;have:=h.wb;omega) _,h.wb,by rw [hs];exact h.size,h.at_.set i z,h.atb,
  owns_afar h.old (fun e=>h.og gat e rfl),owns_afar h.todo (fun e=>h.tg gat e rfl),owns_afar h.atoms (fun e=>h.ag gat e rfl),owns_afar h.nodes (fun e=>h.ng gat e rfl),h.nok,h.ot,h.oa,h.ta,h.on,h.tn,h.an,h.og,h.tg,h.ag,h.ng⟩
theorem RC.grown_base (h : RC w Wb go gat vN vo vt va pt lo la stk os wr) {r : Option Nat} (hg : wr.grownBy wr' r) (hr : ∀ x,r = some x -> Wb.heap.size <= x) : wr'.heap[go]? = some (.cells #[vN,.slice none 0 0] 34 (0,0)) /\ (∀ b,b < Wb.heap.size -> b ≠ go -> wr'.heap[b]? = Wb.heap[b]?) /\ Below w.heap.size w wr' /\ Wb.heap.size <= wr'.heap.size:=by
 have hlt:=(Array.getElem?_eq_some_iff.1 h.out).1
 refine ⟨(hg.block go hlt (fun e=>by have:=hr go e.symm;have:=h.gol;omega)).trans h.out,fun b h1 h2=>(hg.block b (Nat.lt_of_lt_of_le h1 h.size) (fun e=>by have:=hr b e.symm;omega)).trans (h.keep b h1 h2),h.bel.trans ((Below.refl _ _).grown hg (Nat.le_trans h.wb h.size) (fun k hk=>Nat.le_trans h.wb (hr k hk))),Nat.le_trans h.size hg.size⟩
theorem RC.pushT (h : RC w Wb go gat vN vo vt va pt lo la stk os wr) {g cap n : Nat} {z : Int} (ho : wr'.ownsRow Wb.heap.size 3 1 (.slice (some ⟨g,0,none⟩) n cap) n (cz (stk ++ [z]))) (hg : wr.grownBy wr' vt.ownBlock) (hl : vt.ownBlock = some g \/ g = wr.heap.size) :
  RC w Wb go gat vN vo (.slice (some ⟨g,0,none⟩) n cap) va pt lo la (stk ++ [z]) os wr':=by
 obtain ⟨b1,b2,b3,b4⟩:=h.grown_base hg (fun x hx=>(h.todo.lt x hx).1)
 have hn : n = (stk ++ [z]).length:=by have:=ho.1;rw [cz_length] at this;omega
 subst hn
 have hgat : ∀ x,some gat = some x -> x < wr.heap.size:=fun x e=>by cases e;exact h.at_.lt
 exact ⟨b1,h.gol,h.gow,b2,b3,h.wb,b4,blk_grown h.at_ hg h.tg.symm,h.atb,owns_grown h.old hg h.ot,ho,owns_grown h.atoms hg h.ta.symm,owns_grown h.nodes hg h.tn.symm,h.nok,(h.ot.symm.grow hl (own_below h.old)).symm,h.oa,h.ta.grow hl (own_below h.atoms),h.on,h.tn.grow hl (own_below h.nodes),h.an,h.og,h.tg.grow hl hgat,h.ag,h.ng⟩
theorem RC.pushO (h : RC w Wb go gat vN vo vt va pt lo la stk os wr) {g cap n : Nat} {z : Int} (ho : wr'.ownsRow Wb.heap.size 3 1 (.slice (some ⟨g,0,none⟩) n cap) n (cz (lo ++ [z]))) (hg : wr.grownBy wr' vo.ownBlock) (hl : vo.ownBlock = some g \/ g = wr.heap.size) :
  RC w Wb go gat vN (.slice (some ⟨g,0,none⟩) n cap) vt va pt (lo ++ [z]) la stk os wr':=by
 obtain ⟨b1,b2,b3,b4⟩:=h.grown_base hg (fun x hx=>(h.old.lt x hx).1)
 have hn : n = (lo ++ [z]).length:=by have:=ho.1;rw [cz_length] at this;omega
 subst hn
 have hgat : ∀ x,some gat = some x -> x < wr.heap.size:=fun x e=>by cases e;exact h.at_.lt
 exact ⟨b1,h.gol,h.gow,b2,b3,h.wb,b4,blk_grown h.at_ hg h.og.symm,h.atb,ho,owns_grown h.todo hg h.ot.symm,owns_grown h.atoms hg h.oa.symm,owns_grown h.nodes hg h.on.symm,h.nok,h.ot.grow hl (own_below h.todo),h.oa.grow hl (own_below h.atoms),h.ta,h.on.grow hl (own_below h.nodes),h.tn,h.an,h.og.grow hl hgat,h.tg,h.ag,h.ng⟩
theorem RC.pushA (h : RC w Wb go gat vN vo vt va pt lo la stk os wr) {g cap n : Nat} {z : Int} (ho : wr'.ownsRow Wb.heap.size 3 1 (.slice (some ⟨g,0,none⟩) n cap) n (cz (la ++ [z]))) (hg : wr.grownBy wr' va.ownBlock) (hl : va.ownBlock = some g \/ g = wr.heap.size) :
  RC w Wb go gat vN vo vt (.slice (some ⟨g,0,none⟩) n cap) pt lo (la ++ [z]) stk os wr':=by
 obtain ⟨b1,b2,b3,b4⟩:=h.grown_base hg (fun x hx=>(h.atoms.lt x hx).1)
 have hn : n = (la ++ [z]).length:=by have:=ho.1;rw [cz_length] at this;omega
 subst hn
 have hgat : ∀ x,some gat = some x -> x < wr.heap.size:=fun x e=>by cases e;exact h.at_.lt
 exact ⟨b1,h.gol,h.gow,b2,b3,h.wb,b4,blk_grown h.at_ hg h.ag.symm,h.atb,owns_grown h.old hg h.oa,owns_grown h.todo hg h.ta,ho,owns_grown h.nodes hg h.an.symm,h.nok,h.ot,(h.oa.symm.grow hl (own_below h.old)).symm,(h.ta.symm.grow hl (own_below h.todo)).symm,h.on,h.tn,h.an.grow hl (own_below h.nodes),h.og,h.tg,h.ag.grow hl hgat,h.ng⟩
theorem RC.pushN (h : RC w Wb go gat vN vo vt va pt lo la stk os wr) {g cap n : Nat} {d : Nd} (hd : NdOk d /\ d.kids = []) (ho : wr'.ownsRow Wb.heap.size 54 4 (.slice (some ⟨g,0,none⟩) n cap) n (ncs (bares os) ++ nc (d,none,0,0))) (hg : wr.grownBy wr' vN.ownBlock) (hl : vN.ownBlock = some g \/ g = wr.heap.size) :
  RC w Wb go gat (.slice (some ⟨g,0,none⟩) n cap) vo vt va pt lo la stk (os ++ [d]) (wr'.setCell ⟨go,0,none⟩ (.slice (some ⟨g,0,none⟩) n cap)):=by
 obtain ⟨b1,b2,b3,b4⟩:=h.grown_base hg (fun x hx=>(h.nodes.lt x hx).1)
 have hn : n = (os ++ [d]).length:=by have:=ho.1;rw [<- ncs_snoc,<- bares_snoc,ncs_length,bares_length] at this;omega
 subst hn
 have hgat : ∀ x,some gat = some x -> x < wr.heap.size:=fun x e=>by cases e;exact h.at_.lt
 have hs : (wr'.setCell ⟨go,0,none⟩ (.slice (some ⟨g,0,none⟩) (os ++ [d]).length cap)).heap.size = wr'.heap.size:=by simp [World.setCell]
 have hgl:=h.gol
 have ne : ∀ {e : TypeId} {k n : Nat} {v : Value} {xs : List Value},wr'.ownsRow Wb.heap.size e k v n xs -> v.ownBlock ≠ some go:=fun ho e=>by have:=(ho.lt go e).1;omega
 have o1:=owns_grown h.old hg h.on
 have o2:=owns_grown h.todo hg h.tn
 have o3:=owns_grown h.atoms hg h.an
 refine ⟨?_,h.gol,h.gow,fun b h1 h2=>(Below.heap_setCell _ _ _ _ h2).trans (b2 b h1 h2),b3.setCell (p:=⟨go,0,none⟩) h.gow _,h.wb,by rw [hs];exact b4,(Below.heap_setCell _ _ _ _ (by show gat ≠ go;have:=h.atb;omega)).trans (blk_grown h.at_ hg h.ng.symm),h.atb,
  owns_afar o1 (ne o1),owns_afar o2 (ne o2),owns_afar o3 (ne o3),?_,?_,h.ot,h.oa,h.ta,(h.on.symm.grow hl (own_below h.old)).symm,(h.tn.symm.grow hl (own_below h.todo)).symm,(h.an.symm.grow hl (own_below h.atoms)).symm,h.og,h.tg,h.ag,h.ng.grow hl hgat⟩
 ·have:=blk_set (i:=0) b1 (.slice (some ⟨g,0,none⟩) (os ++ [d]).length cap);rw [this];rfl
 ·rw [bares_snoc,ncs_snoc];exact owns_afar ho (ne ho)
 ·intro x hx
  rcases List.mem_append.1 hx with hx | hx
  ·exact h.nok x hx
  ·obtain rfl : x = d := by simpa using hx
   exact hd
theorem RC.popT {g n m cap : Nat} (h : RC w Wb go gat vN vo (.slice (some ⟨g,0,none⟩) n cap) va pt lo la stk os wr) (hn : n = stk.length) (hm : m <= n) : RC w Wb go gat vN vo (.slice (some ⟨g,0,none⟩) m cap) va pt lo la (stk.take m) os wr:=by
 subst hn
 have ht : wr.ownsRow Wb.heap.size 3 1 (.slice (some ⟨g,0,none⟩) m cap) (stk.take m).length (cz (stk.take m)):=by
  have:=owns_take h.todo hm
  have e : (cz stk).take m = cz (stk.take m):=by unfold cz;rw [List.map_take]
  rw [e] at this
  rw [List.length_take,Nat.min_eq_left hm];exact this
 exact ⟨h.out,h.gol,h.gow,h.keep,h.bel,h.wb,h.size,h.at_,h.atb,h.old,ht,h.atoms,h.nodes,h.nok,h.ot,h.oa,h.ta,h.on,h.tn,h.an,h.og,h.tg,h.ag,h.ng⟩
theorem RC.nrow (h : RC w Wb go gat vN vo vt va pt lo la stk os wr) : ∃ ao cap,vN = .slice ao os.length cap /\ NRow wr ao os.length cap os:=by
 have hN : NOwn Wb.heap.size wr vN (bares os):=by
  refine ⟨by rw [bares_length];exact h.nodes,fun x hx=>?_,fun x hx=>?_⟩
  ·obtain ⟨d, hd, rfl⟩ := List.mem_map.1 hx
   exact ⟨by rw [(h.nok d hd).2];exact IRow.nil _ _,fun ad had=>by cases had⟩
  ·obtain ⟨d, hd, rfl⟩ := List.mem_map.1 hx
   exact (h.nok d hd).1
 obtain ⟨ao,cap,e,hr⟩:=hN.row
 rw [bares_fst] at hr
 rw [bares_length] at e hr
 exact ⟨ao,cap,e,hr⟩
end
theorem ncs_set : ∀ {ls : List (Nd × (Option Addr × Nat × Nat))} {i : Nat} (a : Option Addr) (m c : Nat) (l' : List Int),i < ls.length -> (ncs ls).set (i * 4 + 3) (.slice a m c) = ncs (ls.set i ({ (ls.getD i (default,none,0,0)).1 with kids:=l' },a,m,c))
 | [],_,_,_,_,_,h=>by simp at h
 | x :: ls,0,a,m,c,l',_=>by simp [ncs,nc]
 | x :: ls,i + 1,a,m,c,l',h=>by
  have ih:=ncs_set (ls:=ls) (i:=i) a m c l' (by simpa using h)
  have e : (i + 1) * 4 + 3 = (nc x).length + (i * 4 + 3):=by simp [nc];omega
  simp only [ncs,List.flatMap_cons,List.set_cons_succ,List.getD_cons_succ] at *
  rw [e,List.set_append_right _ _ (by omega),Nat.add_sub_cancel_left,ih]
structure KI (w Wi : World) (gN : Nat) (cur : Array Value) (i : Nat) (v : Value) (l : List Int) (wz : World) : Prop where
 cells : wz.heap[gN]? = some (.cells (cur.setIfInBounds (i * 4 + 3) v) 54 (0,0))
 gNl : gN < Wi.heap.size
 row : wz.ownsRow Wi.heap.size 3 1 v l.length (cz l)
 keep : ∀ b,b < Wi.heap.size -> b ≠ gN -> wz.heap[b]? = Wi.heap[b]?
 size : Wi.heap.size <= wz.heap.size
 bel : Below w.heap.size w wz
 gw : w.heap.size <= gN
 wi : w.heap.size <= Wi.heap.size
section
variable {w Wi : World} {gN : Nat} {cur : Array Value} {i : Nat} {v : Value} {l : List Int} {wz wy : World}
theorem KI.on_ (h : KI w Wi gN cur i v l wz) (hb : Below wz.heap.size wz wy) : KI w Wi gN cur i v l wy :=
 ⟨(hb.block gN (Nat.lt_of_lt_of_le h.gNl h.size)).trans h.cells,h.gNl,owns_on h.row hb,fun b h1 h2=>(hb.block b (Nat.lt_of_lt_of_le h1 h.size)).trans (h.keep b h1 h2),Nat.le_trans h.size hb.size,h.bel.trans (hb.mono h.bel.size),h.gw,h.wi⟩
theorem KI.grown (h : KI w Wi gN cur i v l wz) (hg : wz.grownBy wy v.ownBlock) : wy.heap[gN]? = some (.cells (cur.setIfInBounds (i * 4 + 3) v) 54 (0,0)) /\ (∀ b,b < Wi.heap.size -> wy.heap[b]? = wz.heap[b]?):=by
 have hr : ∀ b,b < Wi.heap.size -> some b ≠ v.ownBlock:=fun b hb e=>by have:=(h.row.lt b e.symm).1;omega
 exact ⟨(hg.block gN (Nat.lt_of_lt_of_le h.gNl h.size) (hr gN h.gNl)).trans h.cells,fun b hb=>hg.block b (Nat.lt_of_lt_of_le hb h.size) (hr b hb)⟩
theorem KI.push (h : KI w Wi gN cur i v l wz) (hg : wz.grownBy wy v.ownBlock) {v' : Value} {z : Int} {n : Nat} (ho : wy.ownsRow Wi.heap.size 3 1 v' n (cz (l ++ [z]))) : KI w Wi gN cur i v' (l ++ [z]) (wy.setCell ⟨gN,i * 4 + 3,none⟩ v'):=by
 obtain ⟨h1,h2⟩:=h.grown hg
 have hn : n = (l ++ [z]).length:=by have:=ho.1;rw [cz_length] at this;omega
 subst hn
 have hs : (wy.setCell ⟨gN,i * 4 + 3,none⟩ v').heap.size = wy.heap.size:=by simp [World.setCell]
 refine ⟨?_,h.gNl,owns_afar ho (fun e=>by have:=(ho.lt gN e).1;have:=h.gNl;omega),fun b hb hbg=>(Below.heap_setCell _ _ _ _ hbg).trans ((h2 b hb).trans (h.keep b hb hbg)),by rw [hs];exact Nat.le_trans h.size hg.size,(h.bel.trans ((Below.refl _ _).grown hg (Nat.le_trans h.wi h.size) (fun k hk=>Nat.le_trans h.wi (h.row.lt k hk).1))).setCell (p:=⟨gN,i * 4 + 3,none⟩) h.gw _,h.gw,h.wi⟩
 have:=blk_set (i:=i * 4 + 3) h1 v'
 rw [this];simp
theorem KI.nown {base cN : Nat} {ls : List (Nd × (Option Addr × Nat × Nat))} {a : Option Addr} {m c : Nat} (h : KI w Wi gN cur i (.slice a m c) l wz) (hcur : Wi.heap[gN]? = some (.cells cur 54 (0,0))) (hN : NOwn base Wi (.slice (some ⟨gN,0,none⟩) ls.length cN) ls) (hi : i < ls.length) (hb : ∀ z∈l,I64 z) (hbase : base <= Wi.heap.size) :
  NOwn base wz (.slice (some ⟨gN,0,none⟩) ls.length cN) (ls.set i ({ (ls.getD i (default,none,0,0)).1 with kids:=l },a,m,c)):=by
 have hmem : ls.getD i (default,none,0,0)∈ls:=by rw [List.getD_eq_getElem?_getD,List.getElem?_eq_getElem hi];exact List.getElem_mem hi
 obtain ⟨ao,cap,hv,hI⟩:=irow_of h.row hb
 cases hv
 refine ⟨?_,fun x hx=>?_,fun x hx=>?_⟩
 ·rw [List.length_set]
  rcases hN.own.2 with ⟨h0,_⟩ | ⟨g',cap',cur',h1,h2,h3,h4,h5,h6,h7⟩
  ·cases h0
  ·cases h1
   rw [hcur] at h3
   cases h3
   refine ⟨by rw [ncs_length,List.length_set],.inr ⟨gN,cN,_,rfl,h2,h.cells,h4,h5,by rw [Array.size_setIfInBounds];exact h6,?_⟩⟩
   rw [<- ncs_set a l.length c l hi,<- h7]
   rw [Array.toList_setIfInBounds]
   rw [List.take_set]
 ·rcases List.mem_or_eq_of_mem_set hx with hx | hx
  ·obtain ⟨q1, q2⟩ := hN.kids x hx
   refine ⟨q1.frame h.size (fun ad had=>?_),fun ad had=>?_⟩
   ·obtain ⟨r1, r2, r3⟩ := q2 ad had
    exact h.keep _ r2 (fun e=>r3 (by rw [e];rfl))
   ·obtain ⟨r1, r2, r3⟩ := q2 ad had
    exact ⟨r1,Nat.lt_of_lt_of_le r2 h.size,r3⟩
  ·subst hx
   refine ⟨hI,fun ad had=>?_⟩
   have had' : a = some ad:=had
   have hl:=h.row.lt ad.block (by rw [had'];rfl)
   exact ⟨by omega,hl.2,fun e=>by have e' : gN = ad.block:=Option.some.inj e;have:=h.gNl;omega⟩
 ·rcases List.mem_or_eq_of_mem_set hx with hx | hx
  ·exact hN.ok x hx
  ·subst hx;exact ⟨(hN.ok _ hmem).1,(hN.ok _ hmem).2.1,(hN.ok _ hmem).2.2⟩
end
end Go.Proofs.YticimejfjjmikaaGreatDoor
