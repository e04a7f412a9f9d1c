import Derived.Test.YticimejfjjmikaaGreatDoorSL4
import Derived.Test.YticimejfjjmikaaGreatDoorSG6
import Derived.Test.YticimejfjjmikaaGreatDoorG9
import Derived.Lib.OthersKept
import Derived.Shelf.Strings.FieldsFuncAny
import Derived.Shelf.LaysM
import Derived.Shelf.Strconv.Itoa4
import Derived.Shelf.Strconv.Clone
import Derived.Test.YticimejfjjmikaaGreatDoorProg
set_option linter.unusedVariables false
set_option linter.unusedSimpArgs false
set_option maxRecDepth 100000
namespace Go.Proofs.YticimejfjjmikaaGreatDoor
open Go.RowKit
theorem zsp {t : ByteArray} (hv : Lib.validD t.data.toList = true) : Lib.runeCount t = (ltrs t).length:=by
 obtain ⟨l,h1,h2,h3⟩:=zht (s:=t) (f:=t.size) (p:=0) (by rw [List.drop_zero];exact hv) (by omega)
 rw [List.drop_zero] at h3
 rw [zgi h2 h3]
 unfold ltrs
 rw [h1,List.length_map]
theorem zax1 {s : ByteArray} {p f : Nat} (hv : Lib.validD (s.data.toList.drop p) = true) (hp : p < s.size) :
  ltF s (f + 1) p = ((Utf8.decode s p).1 : Int) :: ltF s f (p + (Utf8.decode s p).2) /\ Lib.validD (s.data.toList.drop (p + (Utf8.decode s p).2)) = true /\ letB ((Utf8.decode s p).1 : Int) = true /\ 1 <= (Utf8.decode s p).2 /\ (Utf8.decode s p).2 <= 4:=by
 have h2 : s.data.toList.length = s.size:=rfl
 have hne : s.data.toList.drop p ≠ []:=by
  intro e;have:=congrArg List.length e;rw [List.length_drop] at this;simp only [List.length_nil] at this;omega
 have hv0:=hv
 rw [Lib.validD_step _ hne,Lib.decodeL_drop] at hv
 by_cases hb : (Utf8.decode s p).1 = 65533 /\ (Utf8.decode s p).2 = 1
 ·rw [if_pos hb] at hv;cases hv
 ·rw [if_neg hb] at hv
  have hne2 : ¬ Utf8.decode s p = (65533,1):=fun e=>hb (by rw [e];exact ⟨rfl,rfl⟩)
  have er : yo s p = Utf8.decode s p:=by unfold yo;rw [if_neg hne2]
  have hw:=zae s p
  rw [List.drop_drop] at hv
  refine ⟨?_,hv,?_,hw.1,hw.2⟩
  ·show (if p < s.size then ((yo s p).1 : Int) :: ltF s f (p + max 1 (yo s p).2) else []) = _
   rw [if_pos hp,er,show max 1 (Utf8.decode s p).2 = (Utf8.decode s p).2 by omega]
  ·have hd : Utf8.decode s p = Lib.decodeL (s.data.toList.drop p) := (Lib.decodeL_drop s p).symm
   have:=Lib.decodeN_valid (s.data.toList.drop p).length ((s.data.toList.drop p).getD 0 0).toNat ((s.data.toList.drop p).getD 1 0).toNat ((s.data.toList.drop p).getD 2 0).toNat ((s.data.toList.drop p).getD 3 0).toNat (UInt8.toNat_lt _)
   rw [<- Lib.decodeL_N,<- hd] at this
   unfold letB
   simp only [Bool.and_eq_true,Bool.or_eq_true,decide_eq_true_eq]
   omega
def ltW (c : Int) : Int:=zj 4 c 0
set_option maxHeartbeats 4000000 in
theorem zmk (t : ByteArray) (ht : t.size <= 1000000) (hv : Lib.validD t.data.toList = true) (w : World) :
  Calls Tryz.prog 178 #[.string t] w fun e w'=>∃ v,e = .returned v /\ w'.ownsRow w.heap.size 44 1 v (ltrs t).length (uz ((ltrs t).map ltW)) /\ Below w.heap.size w w':=by
 have CW : Hid (∀ x : Nat,letB (x : Int) = true -> ∀ W,Calls Tryz.prog 176 #[.int .i64 (x : Nat)] W fun e w'=>e = .returned (.tuple #[.int .u64 (ltW (x : Nat)),.bool true]) /\ w' = W):=fun x hx W=>by
  have hr:=zco (n:=(x : Int)) hx
  have e : zm 4 (x : Int) 0 = true:=by
   unfold zm
   rw [if_neg (by decide),if_neg (by decide),if_neg (by decide),if_pos rfl,decide_eq_true (by omega),decide_eq_true (by omega)]
   exact hx
  have:=zpo (x : Int) (by unfold Z64;omega) W
  rw [e] at this
  exact this
 have HI0 : Hid ((w.iter t 0).heap[w.heap.size]? = some (.stringIter t 0)):=World.iter_heap w t 0
 have HB0 : Hid (Below w.heap.size w (w.iter t 0)):=Ba w (.stringIter t 0)
 have HV : Hid (Lib.validD (t.data.toList.drop 0) = true):=by unfold Hid;rw [List.drop_zero];exact hv
 clear hv
 go_enter Tryz.func178,Tryz.ntmps178
 go_wp2_with fail
 go_loopw [3,5,6,7] (fun v _ _ _ wr=>Hid (∃ (p f : Nat) (ls : List Int),wr.heap[w.heap.size]? = some (.stringIter t p) /\ wr.ownsRow w.heap.size 44 1 v ls.length (uz (ls.map ltW)) /\ Below w.heap.size w wr /\ ltrs t = ls ++ ltF t f p /\ t.size <= p + f /\ ls.length <= p /\ p <= t.size + 4 /\ Lib.validD (t.data.toList.drop p) = true)) (fun _ _ _ _ wr=>t.size + 5 - wr.iterPos w.heap.size)
 case atStart=>exact ⟨0,t.size,[],HI0.out,World.ownsRow_nil _ _ _ _,HB0.out,rfl,by omega,by simp,by omega,HV.out⟩
 case round =>
  obtain ⟨p,f,ls,hit,ho,hb,hl,hf,hlp,hp4,hv⟩:=hrel.out
  have hpos : wr.iterPos w.heap.size = p:=by unfold World.iterPos;rw [hit]
  have HIT:=hid hit
  have HO:=hid ho
  have HB:=hid hb
  have HL:=hid hl
  have HPO:=hid hpos
  clear hrel ho hb hl hpos
  by_cases hlt : p < t.size
  ·obtain ⟨g, hg⟩ : ∃ g, f = g + 1 := ⟨f - 1, by omega⟩
   obtain ⟨n1,n2,n3,n4,n5⟩:=zax1 (f:=g) hv hlt
   have hnx:=fun ty=>Lib.run_next_any_at (P:=Tryz.prog) wr w.heap.size t p ty hit hlt
   have HIT2:=hid (Lib.iterAt_heap wr w.heap.size t p (p + (Utf8.decode t p).2) hit)
   have HOI:=hid (own_iterAt HO.out hit (p + (Utf8.decode t p).2))
   have HBI:=hid (Lib.below_iterAt HB.out (Nat.le_refl _) t (p + (Utf8.decode t p).2))
   have C1:=hid (CW.out (Utf8.decode t p).1 n3)
   have hr:=zco (n:=((Utf8.decode t p).1 : Int)) n3
   obtain ⟨⟨c,k⟩,hck⟩ : ∃ x,x = Utf8.decode t p:=⟨_,rfl⟩
   rw [<- hck] at hnx HIT2 HOI HBI C1 n1 n2 n4 n5 hr
   simp only at hnx HIT2 HOI HBI C1 n1 n2 n4 n5 hr
   obtain ⟨WI,hWI⟩ : ∃ W,W = wr.iterAt w.heap.size t (p + k):=⟨_,rfl⟩
   rw [<- hWI] at hnx HIT2 HOI HBI
   have HN1:=hid n1
   have HN2:=hid n2
   have HSI : Hid (WI.heap.size = wr.heap.size):=by unfold Hid;rw [hWI];exact Lib.iterAt_size _ _ _ _
   obtain ⟨z,hz⟩ : ∃ z,z = ltW ((c : Nat) : Int):=⟨_,rfl⟩
   have HZ:=hid hz
   have hzu : Hid (U64 z):=by unfold Hid;rw [hz];exact z8 _ _ _
   rw [<- hz] at C1
   have HO1:=hid (je HOI.out (Ba WI (.cells #[.int .u64 z] 44)))
   have HU1:=hid (qp (zd WI #[.int .u64 z] 44) hzu.out)
   have HBA:=hid (HBI.out.trans ((Ba WI (.cells #[.int .u64 z] 44)).mono HBI.out.size))
   have HSA:=hid HBA.out.size
   have HIT3:=hid (((Ba WI (.cells #[.int .u64 z] 44)).block w.heap.size (Array.getElem?_eq_some_iff.1 HIT2.out).1).trans HIT2.out)
   have HNE:=hid (own_ne_iter HO1.out HIT3.out)
   obtain ⟨n,hn⟩ : ∃ n,n = ls.length:=⟨_,rfl⟩
   rw [<- hn] at HO1 hlp
   have HN:=hid hn
   clear hit hv n1 n2 n3 hck hWI hz hn
   go_wp2_with (first
    | (go_at_call 176;(with_reducible refine (C1.out WI).mono ?_);rintro e W1 ⟨rfl,hw1⟩;rw [hw1];clear hw1)
    | (at_builtin;refine appU rfl _ _ 23 rfl w.heap.size 44 Tryz.underlying23 yn _ n (ls.map ltW) rfl HO1.out (some ⟨WI.heap.size,0,none⟩) 1 1 [z] rfl HU1.out (by omega) HSA.out ?_;intro v2 w2 ho2 hg2))
   have HE : Hid (Below w.heap.size w w2):=HBA.out.grown hg2 HSA.out (fun b hb=>(HO1.out.lt b hb).1)
   have hit2 : w2.heap[w.heap.size]? = some (.stringIter t (p + k)):=(hg2.block w.heap.size (by rw [zb];have:=(Array.getElem?_eq_some_iff.1 HIT2.out).1;omega) HNE.out).trans HIT3.out
   refine ⟨⟨p + k,g,ls ++ [(c : Int)],hit2,?_,HE.out,?_,by omega,by rw [List.length_append,<- HN.out];simp;omega,by omega,HN2.out⟩,?_⟩
   ·rw [List.length_append, <- HN.out, List.map_append]
    show w2.ownsRow w.heap.size 44 1 v2 (n + 1) (uz (ls.map ltW ++ [ltW (c : Int)]))
    rw [<- HZ.out];exact ho2
   ·rw [HL.out,hg,HN1.out,List.append_assoc];rfl
   ·have e2 : w2.iterPos w.heap.size = p + k := by unfold World.iterPos; rw [hit2]
    rw [e2,HPO.out];omega
  ·have hnx := fun ty => Lib.run_next_end_at (P := Tryz.prog) wr w.heap.size t p ty hit hlt
   clear hit hv
   go_wp2_with fail
   go_ret
   have he : ltF t f p = []:=by
    cases f with
    | zero=>rfl
    | succ f=>rw [ltF,if_neg hlt]
   have hl:=HL.out
   rw [he,List.append_nil] at hl
   rw [hl]
   exact ⟨_,rfl,HO.out,HB.out⟩
structure LNd (d : Nd) : Prop where
 c : CNd d
 sz : 0 <= zp d
 tv : d.kind = 5 -> Lib.validD d.text.data.toList = true
theorem LNd.of {n : Nat} {d : Nd} (h : qf n d = true) (hc : CNd d) (hz : 0 <= zp d) : LNd d:=by
 refine ⟨hc,hz,fun e=>?_⟩
 obtain ⟨_,_,_,h4,_⟩:=zbj h
 rw [e,zir,Bool.and_eq_true] at h4
 exact h4.1
theorem zjm {d : Nd} (h : CNd d) : zp d < 0 ↔ 11 < d.kind:=by
 have:=h.kind
 unfold zp
 constructor
 ·intro hn
  split at hn
  ·omega
  split at hn
  ·split at hn <;> omega
  split at hn
  ·omega
  split at hn
  ·omega
  split at hn <;> omega
 ·intro hk
  rw [if_neg (by omega),if_neg (by omega),if_neg (by omega),if_neg (by omega),if_neg (by omega)]
  omega
set_option maxHeartbeats 4000000 in
theorem zay1 (d : Nd) (ka : Option Addr) (kc : Nat) (w : World) (hd : LNd d) (hkk : d.kids.length <= kc) (hkc : kc <= 9223372036854775807) :
  Calls Tryz.prog 142 #[vg d ka kc] w fun e w'=>e = .returned (.int .i64 (zp d)) /\ Below w.heap.size w w':=by
 have HB:=hid (Ba w (.cells #[.int .i64 d.kind,.int .i64 d.num,.string d.text,.slice ka d.kids.length kc] 54))
 have hx:=zd w #[.int .i64 d.kind,.int .i64 d.num,.string d.text,.slice ka d.kids.length kc] 54
 have HSZ : Hid (zp d = if d.kind = 1 \/ d.kind = 2 \/ d.kind = 4 \/ d.kind = 6 \/ d.kind = 10 \/ d.kind = 11 then (0 : Int)
  else if d.kind = 3 then (if fixB (txZ d.text) = true then 0 else 2 + (((mg (txZ d.text).natAbs).length : Nat) : Int))
  else if d.kind = 5 then 1 + (((ltrs d.text).length : Nat) : Int)
  else if d.kind = 7 \/ d.kind = 8 then 1 + ((d.kids.length : Nat) : Int)
  else if d.kind = 9 then 1 + ((d.text.size : Nat) : Int) else (-1 : Int)):=rfl
 have HP:=hid hd.c.int_
 have HV:=hid hd.tv
 have hge:=hd.sz
 have hkd:=hd.c.kind
 have htx:=hd.c.text
 have hks:=hd.c.kids
 unfold vg
 clear hd
 obtain ⟨dk,dn,dt,dl⟩:=d
 simp only at HB HSZ HP HV htx hkk hks hkd hx ⊢
 have c0 : (w.alloc (.cells #[.int .i64 dk,.int .i64 dn,.string dt,.slice ka dl.length kc] 54)).cell? ⟨w.heap.size,0,none⟩ = some (.int .i64 dk):=za hx 0
 have c2 : (w.alloc (.cells #[.int .i64 dk,.int .i64 dn,.string dt,.slice ka dl.length kc] 54)).cell? ⟨w.heap.size,2,none⟩ = some (.string dt):=za hx 2
 have c3 : (w.alloc (.cells #[.int .i64 dk,.int .i64 dn,.string dt,.slice ka dl.length kc] 54)).cell? ⟨w.heap.size,3,none⟩ = some (.slice ka dl.length kc):=za hx 3
 obtain ⟨kn,hkn⟩ : ∃ n,n = dl.length:=⟨_,rfl⟩
 rw [<- hkn] at HB HSZ c0 c2 c3 hkk hks ⊢
 clear hx hkn
 by_cases k3 : dk = 3
 ·subst k3
  rw [if_neg (by omega),if_pos rfl] at HSZ
  have C:=hid (zas1 dt (by omega) (HP.out rfl) (w.alloc (.cells #[.int .i64 3,.int .i64 dn,.string dt,.slice ka kn kc] 54)))
  rw [<- HSZ.out] at C
  obtain ⟨z,hz⟩ : ∃ z,z = zp ⟨3,dn,dt,dl⟩:=⟨_,rfl⟩
  rw [<- hz] at C ⊢
  clear hz hge HSZ
  go_enter Tryz.func142,Tryz.ntmps142
  go_wp2_with (go_at_call 172;(with_reducible refine C.out.mono ?_);rintro e W1 ⟨rfl,b1⟩;have HB1:=hid (Bt HB.out b1);clear b1)
  go_ret
  exact ⟨rfl,HB1.out⟩
 by_cases k5 : dk = 5
 ·subst k5
  rw [if_neg (by omega),if_neg (by omega),if_pos rfl] at HSZ
  have C:=hid (zkn dt (w.alloc (.cells #[.int .i64 5,.int .i64 dn,.string dt,.slice ka kn kc] 54)) (by omega))
  rw [zsp (HV.out rfl)] at C
  have hll:=zde dt
  obtain ⟨n,hn⟩ : ∃ n,n = (ltrs dt).length:=⟨_,rfl⟩
  rw [<- hn] at C HSZ hll
  clear hn hge
  go_enter Tryz.func142,Tryz.ntmps142
  go_wp2_with (go_at_call 173;(with_reducible refine C.out.mono ?_);rintro e W1 ⟨rfl,b1⟩;have HB1:=hid (Bt HB.out b1);clear b1)
  go_ret
  rw [HSZ.out]
  exact ⟨rfl,HB1.out⟩
 by_cases k9 : dk = 9
 ·subst k9
  rw [if_neg (by omega),if_neg (by omega),if_neg (by omega),if_neg (by omega),if_pos rfl] at HSZ
  clear hge
  go_enter Tryz.func142,Tryz.ntmps142
  go_wp2_with fail
  go_ret
  rw [HSZ.out]
  exact ⟨rfl,HB.out⟩
 by_cases k7 : dk = 7
 ·subst k7
  rw [if_neg (by omega),if_neg (by omega),if_neg (by omega),if_pos (by omega)] at HSZ
  clear hge
  go_enter Tryz.func142,Tryz.ntmps142
  go_wp2_with fail
  go_ret
  rw [HSZ.out]
  exact ⟨rfl,HB.out⟩
 by_cases k8 : dk = 8
 ·subst k8
  rw [if_neg (by omega),if_neg (by omega),if_neg (by omega),if_pos (by omega)] at HSZ
  clear hge
  go_enter Tryz.func142,Tryz.ntmps142
  go_wp2_with fail
  go_ret
  rw [HSZ.out]
  exact ⟨rfl,HB.out⟩
 have h0 : Hid (zp ⟨dk,dn,dt,dl⟩ = 0):=by
  unfold Hid
  by_cases h1 : dk = 1 \/ dk = 2 \/ dk = 4 \/ dk = 6 \/ dk = 10 \/ dk = 11
  ·exact HSZ.out.trans (if_pos h1)
  ·have := HSZ.out
   rw [if_neg h1,if_neg k3,if_neg k5,if_neg (by omega),if_neg k9] at this
   omega
 have e3 : (dk == 3) = false:=by simpa using k3
 have e5 : (dk == 5) = false:=by simpa using k5
 have e7 : (dk == 7) = false:=by simpa using k7
 have e8 : (dk == 8) = false:=by simpa using k8
 have e9 : (dk == 9) = false:=by simpa using k9
 clear k3 k5 k7 k8 k9 HSZ hge hkd
 go_enter Tryz.func142,Tryz.ntmps142
 go_wp2_with fail
 go_ret
 rw [h0.out]
 exact ⟨rfl,HB.out⟩
set_option maxHeartbeats 4000000 in
theorem zsq (an : Option Addr) (nn cn : Nat) (cs : List Nd) (w : World) (R : NRow w an nn cn cs) (hd : ∀ d∈cs,LNd d) (hn : nn <= 2500) :
  Calls Tryz.prog 85 #[.slice an nn cn] w fun e w'=>e = .returned (.int .i64 (sumN cs)) /\ Below w.heap.size w w':=by
 have hl:=R.len
 have hf:=R.fits
 have hm:=R.most
 unfold maxLen at hm
 have HR:=hid R
 have HD:=hid hd
 have HSB:=hid (zgr (fun d h=>(hd d h).c))
 clear R hd
 go_enter Tryz.func85,Tryz.ntmps85
 go_wp2_with fail
 go_loopw [3,5,8] (fun v _ i wr=>∃ q : Nat,q <= nn /\ i = .int .i64 q /\ v = .int .i64 (sumN (cs.take q)) /\ Hid (Below w.heap.size w wr)) (fun _ _ i _=>nn - (intOf i).toNat)
 case atStart=>exact ⟨0,Nat.zero_le _,rfl,rfl,Below.refl _ _⟩
 case round =>
  obtain ⟨q,hq,rfl,rfl,HBQ⟩:=hrel
  have hsb:=HSB.out q
  obtain ⟨s,hs⟩ : ∃ s,s = sumN (cs.take q):=⟨_,rfl⟩
  rw [<- hs] at hsb ⊢
  have HSQ:=hid hs
  clear hs
  by_cases hlt : q < nn
  ·have hql : q < cs.length := by omega
   obtain ⟨b,o,rfl,hlb,hc⟩:=(HR.out.below HBQ.out).some (by omega)
   obtain ⟨k1,k2,k3,ak,nk,ck,k4,k5⟩:=hc q hlt
   have hmm : cs.getD q default∈cs:=by rw [List.getD_eq_getElem?_getD,List.getElem?_eq_getElem hql];exact List.getElem_mem _
   have hd:=HD.out _ hmm
   have hsz:=hd.c.size
   have hlk:=k5.len
   have CS : Hid (∀ W,Calls Tryz.prog 142 #[vg (cs.getD q default) ak ck] W fun e w'=>e = .returned (.int .i64 (zp (cs.getD q default))) /\ Below W.heap.size W w'):=fun W=>zay1 (cs.getD q default) ak ck W hd (by rw [hlk];exact k5.fits) (by have:=k5.most;unfold maxLen at this;omega)
   have HTK:=hid (xl hql)
   unfold vg at CS
   rw [hlk] at CS
   obtain ⟨d,hdd⟩ : ∃ d,d = cs.getD q default:=⟨_,rfl⟩
   rw [<- hdd] at k1 k2 k3 hsz CS HTK
   obtain ⟨z,hz⟩ : ∃ z,z = zp d:=⟨_,rfl⟩
   rw [<- hz] at CS HTK hsz
   obtain ⟨dk,dn,dt,dl⟩:=d
   simp only at k1 k2 k3 CS
   have hx:=zd wr #[.int .i64 dk,.int .i64 dn,.string dt,.slice ak nk ck] 54
   have b0 : (wr.alloc (.cells #[.int .i64 dk,.int .i64 dn,.string dt,.slice ak nk ck] 54)).cell? ⟨wr.heap.size,0,none⟩ = some (.int .i64 dk):=za hx 0
   have b1 : (wr.alloc (.cells #[.int .i64 dk,.int .i64 dn,.string dt,.slice ak nk ck] 54)).cell? ⟨wr.heap.size,1,none⟩ = some (.int .i64 dn):=za hx 1
   have b2 : (wr.alloc (.cells #[.int .i64 dk,.int .i64 dn,.string dt,.slice ak nk ck] 54)).cell? ⟨wr.heap.size,2,none⟩ = some (.string dt):=za hx 2
   have b3 : (wr.alloc (.cells #[.int .i64 dk,.int .i64 dn,.string dt,.slice ak nk ck] 54)).cell? ⟨wr.heap.size,3,none⟩ = some (.slice ak nk ck):=za hx 3
   have HBA:=hid (Bt HBQ.out (Ba wr (.cells #[.int .i64 dk,.int .i64 dn,.string dt,.slice ak nk ck] 54)))
   clear hc hmm hd hdd k5 hz hlk hx
   go_wp2_with (go_at_call 142;(with_reducible refine (CS.out _).mono ?_);rintro e W4 ⟨rfl,b4⟩;have HB4:=hid (Bt HBA.out b4);clear b4)
   refine ⟨⟨q + 1,by omega,by go_num,?_,HB4.out⟩,by simp [intOf] <;> omega⟩
   rw [HTK.out,<- HSQ.out]
  ·obtain rfl : q = nn := by omega
   have hsq:=HSQ.out
   rw [List.take_of_length_le (by omega)] at hsq
   have HS2:=hid hsq
   clear hsq
   go_wp2_with fail
   go_ret
   rw [<- HS2.out]
   exact ⟨rfl,HBQ.out⟩
def layB (ns : List Nd) (rs : List Int) : Bool:=yx ns rs && (zg ns rs).1.all (fun d=>decide (0 <= zp d))
def xz (ns : List Nd) (rs : List Int) (w : World) (e : Ending) (w' : World) : Prop :=
 if layB ns rs = true then ∃ a1 n1 c1 a2 n2 c2,e = .returned (.tuple #[GVal a1 n1 c1 a2 n2 c2,.bool true]) /\ GIs w' a1 n1 c1 a2 n2 c2 (zg ns rs).1 (zg ns rs).2 /\ zva w.heap.size w' a1 n1 c1 a2 n2 c2 (zg ns rs).1 (zg ns rs).2 /\ Below w.heap.size w w'
 else e = .returned (.tuple #[.agg #[.slice none 0 0,.slice none 0 0],.bool false]) /\ Below w.heap.size w w'
theorem xz.no {ns : List Nd} {rs : List Int} {w w' : World} (h : layB ns rs = false) (hb : Below w.heap.size w w') : xz ns rs w (.returned (.tuple #[.agg #[.slice none 0 0,.slice none 0 0],.bool false])) w':=by
 unfold xz;rw [if_neg (by rw [h];decide)];exact ⟨rfl,hb⟩
set_option maxHeartbeats 8000000 in
theorem zml (an ar : Option Addr) (nn cn nr cr : Nat) (ns : List Nd) (rs : List Int) (w : World) (G : GOk w an nn cn ar nr cr ns rs) (hn : nn <= 100) (hT : Tabs w) :
  Calls Tryz.prog 84 #[GVal an nn cn ar nr cr] w (xz ns rs w):=by
 have HG:=hid G
 have HT:=hid hT
 have hlen : ns.length = nn:=G.is.nodes.len
 have HCN : Hid (yx ns rs = true -> (∀ d∈(zg ns rs).1,CNd d) /\ (zg ns rs).1.length <= 100 /\ (zg ns rs).2.length = rs.length /\ yx (zg ns rs).1 (zg ns rs).2 = true):=fun h=>xm h G.small G.kids (by omega)
 have f1:=G.is.nodes.fits
 have f2:=G.is.nodes.most
 have f3:=G.is.roots.fits
 have f4:=G.is.roots.most
 unfold maxLen at f2 f4
 have bA:=Bt (Ba w (.cells #[.slice an nn cn,.slice ar nr cr] 34)) (Ba (w.alloc (.cells #[.slice an nn cn,.slice ar nr cr] 34)) (.cells #[.slice none 0 0,.slice none 0 0] 34))
 have x1:=(GBox.new 34 w an ar nn cn nr cr).on (Ba (w.alloc (.cells #[.slice an nn cn,.slice ar nr cr] 34)) (.cells #[.slice none 0 0,.slice none 0 0] 34))
 have x2:=GBox.new 34 (w.alloc (.cells #[.slice an nn cn,.slice ar nr cr] 34)) none none 0 0 0 0
 have hsz : ((w.alloc (.cells #[.slice an nn cn,.slice ar nr cr] 34)).alloc (.cells #[.slice none 0 0,.slice none 0 0] 34)).heap.size = w.heap.size + 1 + 1:=by rw [zb,zb]
 rw [zb] at x2
 obtain ⟨z1,z2⟩:=x1.c
 unfold GVal
 clear G hT
 go_enter Tryz.func84,Tryz.ntmps84
 go_wp2_with fail
 clear z1 z2
 generalize (w.alloc (.cells #[.slice an nn cn,.slice ar nr cr] 34)).alloc (.cells #[.slice none 0 0,.slice none 0 0] 34) = W1 at *
 obtain ⟨gb,hgb⟩ : ∃ g,g = w.heap.size:=⟨_,rfl⟩
 obtain ⟨gr,hgr⟩ : ∃ g,g = w.heap.size + 1:=⟨_,rfl⟩
 rw [<- hgr] at x2
 rw [<- hgb] at x1
 rw [<- hgr,<- hgb]
 have hne : Hid (gb ≠ gr /\ w.heap.size <= gb /\ w.heap.size <= gr /\ gb < W1.heap.size /\ gr < W1.heap.size):=by refine ⟨?_,?_,?_,?_,?_⟩ <;> omega
 refine (zbz1 an ar nn cn nr cr ns rs W1 (HG.out.is.below bA) HG.out.small (by omega) (HT.out.below bA)).mono ?_
 rintro e w2 ⟨rfl,b2⟩
 have y1:=x1.on b2
 have y2:=x2.on b2
 have HB2:=hid (bA.trans (b2.mono bA.size))
 have HW12:=hid b2.size
 have Y2:=hid y2
 obtain ⟨z1,z2⟩:=y1.c
 obtain ⟨v1,v2⟩:=y2.c
 have fv1 : w2.frozen? ⟨gr,0,none⟩ = false:=zf y2 0
 have fv2 : w2.frozen? ⟨gr,1,none⟩ = false:=zf y2 1
 have hsw : Hid (w.heap.size <= w2.heap.size):=HB2.out.size
 clear bA x1 x2 hsz hgb hgr b2 y1 y2
 have fin : Hid (∀ (wz : World),Below w2.heap.size w2 wz -> layB ns rs = false -> xz ns rs w (.returned (.tuple #[.agg #[.slice none 0 0,.slice none 0 0],.bool false])) ((wz.setCell ⟨gr,0,none⟩ (.slice none 0 0)).setCell ⟨gr,1,none⟩ (.slice none 0 0)) /\ ((wz.setCell ⟨gr,0,none⟩ (.slice none 0 0)).setCell ⟨gr,1,none⟩ (.slice none 0 0)).heap[gr]? = some (.cells #[.slice none 0 0,.slice none 0 0] 34 (0,0))):=fun wz hb hl=>by
  have hz:=(hb.block gr (Nat.lt_of_lt_of_le hne.out.2.2.2.2 HW12.out)).trans Y2.out
  exact ⟨xz.no hl (y8 (HB2.out.trans (hb.mono HB2.out.size)) hne.out.2.2.1),zbr hz⟩
 obtain ⟨gd,hgd⟩ : ∃ gd,gd = yx ns rs:=⟨_,rfl⟩
 rw [<- hgd]
 have HGD:=hid hgd
 cases gd
 ·clear hgd
  obtain ⟨q1,q2⟩:=fin.out w2 (Below.refl _ _) (by unfold layB;rw [<- HGD.out];rfl)
  have r0:=za q2 0
  have r1:=za q2 1
  have Q1:=hid q1
  clear q1 q2
  go_wp2_with fail
  (try simp only [Exit.inBlock,Exit.then]);refine bodyPost_ret (by simp [results,Tryz.results84,go_sem,r0,r1];rfl) rfl ?_
  exact Q1.out
 ·clear hgd
  obtain ⟨cnd,cl,crl,cgd⟩:=HCN.out HGD.out.symm
  have C2:=hid (zkt an ar nn cn nr cr ns rs w2 (HG.out.is.below HB2.out) HG.out.small HG.out.kids (by omega) HG.out.nr_le (HT.out.below HB2.out) 300001 (by omega) (by omega))
  have HLB : Hid (layB ns rs = (zg ns rs).1.all (fun d=>decide (0 <= zp d))):=by unfold Hid layB;rw [<- HGD.out];rfl
  have ec : yj ns rs 300001 = zg ns rs:=rfl
  rw [ec] at C2
  obtain ⟨cs,hcs⟩ : ∃ c,c = (zg ns rs).1:=⟨_,rfl⟩
  obtain ⟨crs,hcrs⟩ : ∃ c,c = (zg ns rs).2:=⟨_,rfl⟩
  rw [<- hcs] at C2 HLB cnd cl
  rw [<- hcrs] at C2
  have HCND:=hid cnd
  have HCS:=hid hcs
  have HCRS:=hid hcrs
  unfold GVal at C2
  clear HCN cnd crl cgd hcs hcrs ec
  go_wp2_with (go_at_call 40;(with_reducible refine C2.out.mono ?_);rintro e w3 ⟨a1,n1,c1,a2,n2,c2,rfl,g3,gk3,b3⟩;have h1:=g3.nodes.fits;have h2:=g3.nodes.most;have h3:=g3.roots.fits;have h4:=g3.roots.most;have h5:=g3.nodes.len;have HB3:=hid (Bt b3 (Ba w3 (.cells #[.slice a1 n1 c1,.slice a2 n2 c2] 34)));have HS3:=hid b3.size;have HN3:=hid (g3.nodes.below (Ba w3 (.cells #[.slice a1 n1 c1,.slice a2 n2 c2] 34)));have HGK:=hid gk3;have hx3:=GBox.new 34 w3 a1 a2 n1 c1 n2 c2;have HX3:=hid hx3;obtain ⟨d0,d1⟩:=hx3.c;clear b3 g3 gk3 hx3 z1 z2)
  unfold maxLen at h2 h4
  obtain ⟨W3,hW3⟩ : ∃ W,W = w3.alloc (.cells #[.slice a1 n1 c1,.slice a2 n2 c2] 34):=⟨_,rfl⟩
  obtain ⟨gc,hgc⟩ : ∃ g,g = w3.heap.size:=⟨_,rfl⟩
  have hsz3 : Hid (W3.heap.size = w3.heap.size + 1):=by unfold Hid;rw [hW3,zb]
  have hblk3 : Hid (∀ b,b < w3.heap.size -> W3.heap[b]? = w3.heap[b]?):=fun b hb=>by rw [hW3];exact (Ba w3 _).block b hb
  rw [<- hW3] at HB3 HN3 HX3 ⊢
  rw [<- hgc] at HX3 ⊢
  clear d0 d1 hW3 hgc v1 v2 fv1 fv2
  go_loopw [6,16] (fun _ i wr=>∃ q : Nat,q <= n1 /\ i = .int .i64 q /\ Hid ((cs.take q).all (fun d=>decide (0 <= zp d)) = true /\ Below W3.heap.size W3 wr)) (fun _ i _=>n1 - (intOf i).toNat)
  case atStart=>exact ⟨0,Nat.zero_le _,rfl,rfl,Below.refl _ _⟩
  case round =>
   obtain ⟨q,hq,rfl,hI⟩:=hrel
   have HA:=hid hI.out.1
   have HBQ:=hid hI.out.2
   have hx4:=HX3.out.on HBQ.out
   have HX4:=hid hx4
   have HBW:=hid (HB3.out.trans (HBQ.out.mono HB3.out.size))
   clear hI
   by_cases hlt : q < n1
   ·have hql : q < cs.length := by omega
    obtain ⟨b,o,rfl,hlb,hc⟩:=(HN3.out.below HBQ.out).some (by omega)
    obtain ⟨k1,k2,k3,ak,nk,ck,k4,k5⟩:=hc q hlt
    have hm : cs.getD q default∈cs:=by rw [List.getD_eq_getElem?_getD,List.getElem?_eq_getElem hql];exact List.getElem_mem _
    have hd:=HCND.out _ hm
    have hkd:=hd.kind
    have hneg:=zjm hd
    have HTA:=hid (js (fun d=>decide (0 <= zp d)) hql)
    rw [HA.out] at HTA
    obtain ⟨d,hdd⟩ : ∃ d,d = cs.getD q default:=⟨_,rfl⟩
    rw [<- hdd] at k1 k2 k3 hneg HTA hkd
    have HNG:=hid hneg
    have hbad : Hid (¬ 0 <= zp d -> cs.all (fun d=>decide (0 <= zp d)) = false):=fun h=>vc _ (k:=q + 1) (by rw [HTA.out,decide_eq_false h];rfl)
    obtain ⟨dk,dn,dt,dl⟩:=d
    simp only at k1 k2 k3 hkd
    have hx:=zd wr #[.int .i64 dk,.int .i64 dn,.string dt,.slice ak nk ck] 54
    have b0 : (wr.alloc (.cells #[.int .i64 dk,.int .i64 dn,.string dt,.slice ak nk ck] 54)).cell? ⟨wr.heap.size,0,none⟩ = some (.int .i64 dk):=za hx 0
    have HBN:=hid (Ba wr (.cells #[.int .i64 dk,.int .i64 dn,.string dt,.slice ak nk ck] 54))
    clear hc hm hd hdd k5 hneg hx hx4
    by_cases hk : 11 < dk
    ·have hsn : Hid (¬ 0 <= zp ⟨dk, dn, dt, dl⟩) := by have := HNG.out.2 hk; unfold Hid; omega
     have e9 : decide (9 < dk) = true:=by simp;omega
     have e10 : (dk != 10) = true:=by simp;omega
     have e11 : (dk != 11) = true:=by simp;omega
     have hbz:=HBW.out.trans (HBN.out.mono HBW.out.size)
     have hz:=(hbz.block gr (Nat.lt_of_lt_of_le hne.out.2.2.2.2 HW12.out)).trans Y2.out
     have v1 : (wr.alloc (.cells #[.int .i64 dk,.int .i64 dn,.string dt,.slice ak nk ck] 54)).cell? ⟨gr,0,none⟩ = some (.slice none 0 0):=za hz 0
     have v2 : (wr.alloc (.cells #[.int .i64 dk,.int .i64 dn,.string dt,.slice ak nk ck] 54)).cell? ⟨gr,1,none⟩ = some (.slice none 0 0):=za hz 1
     have fv1 : (wr.alloc (.cells #[.int .i64 dk,.int .i64 dn,.string dt,.slice ak nk ck] 54)).frozen? ⟨gr,0,none⟩ = false:=zf hz 0
     have fv2 : (wr.alloc (.cells #[.int .i64 dk,.int .i64 dn,.string dt,.slice ak nk ck] 54)).frozen? ⟨gr,1,none⟩ = false:=zf hz 1
     obtain ⟨q1,q2⟩:=fin.out _ hbz (by rw [HLB.out];exact hbad.out hsn.out)
     have r0:=za q2 0
     have r1:=za q2 1
     have Q1:=hid q1
     clear q1 q2 hz hbz
     go_wp2_with fail
     (try simp only [Exit.inBlock,Exit.then]);refine bodyPost_ret (by simp [results,Tryz.results84,go_sem,r0,r1];rfl) rfl ?_
     exact Q1.out
    ·have hok : Hid ((cs.take (q + 1)).all (fun d => decide (0 <= zp d)) = true) := by
      unfold Hid
      rw [HTA.out]
      have:=mt HNG.out.1 hk
      rw [decide_eq_true (by omega)];rfl
     have HE:=hid (HBQ.out.trans (HBN.out.mono HBQ.out.size))
     by_cases k9 : 9 < dk
     ·have e9 : decide (9 < dk) = true := decide_eq_true k9
      by_cases k10 : dk = 10
      ·subst k10
       go_wp2_with fail
       exact ⟨⟨q + 1,by omega,by go_num,hok.out,HE.out⟩,by simp [intOf] <;> omega⟩
      ·obtain rfl : dk = 11 := by omega
       go_wp2_with fail
       exact ⟨⟨q + 1,by omega,by go_num,hok.out,HE.out⟩,by simp [intOf] <;> omega⟩
     ·have e9 : decide (9 < dk) = false := decide_eq_false k9
      go_wp2_with fail
      exact ⟨⟨q + 1,by omega,by go_num,hok.out,HE.out⟩,by simp [intOf] <;> omega⟩
   ·obtain rfl : q = n1 := by omega
    have hall:=HA.out
    rw [List.take_of_length_le (by omega)] at hall
    have HALL:=hid hall
    obtain ⟨d0,d1⟩:=hx4.c
    have hz:=(HBW.out.block gr (Nat.lt_of_lt_of_le hne.out.2.2.2.2 HW12.out)).trans Y2.out
    have v1 : wr.cell? ⟨gr,0,none⟩ = some (.slice none 0 0):=za hz 0
    have v2 : wr.cell? ⟨gr,1,none⟩ = some (.slice none 0 0):=za hz 1
    have fv1 : wr.frozen? ⟨gr,0,none⟩ = false:=zf hz 0
    have fv2 : wr.frozen? ⟨gr,1,none⟩ = false:=zf hz 1
    have hst:=zbr (v1:=.slice a1 q c1) (v2:=.slice a2 n2 c2) hz
    have r0:=za hst 0
    have r1:=za hst 1
    clear hall hx4 hz hst
    go_wp2_with fail
    (try simp only [Exit.inBlock,Exit.then]);refine bodyPost_ret (by simp [results,Tryz.results84,go_sem,r0,r1];rfl) rfl ?_
    have hss : ((wr.setCell ⟨gr,0,none⟩ (.slice a1 q c1)).setCell ⟨gr,1,none⟩ (.slice a2 n2 c2)).heap.size = wr.heap.size:=by simp [World.setCell]
    have s3:=hsz3.out
    have s4:=HBQ.out.size
    have s5:=HS3.out
    have key : ∀ wz : World,wr.heap.size <= wz.heap.size -> (∀ b,w2.heap.size <= b -> b < wr.heap.size -> wz.heap[b]? = wr.heap[b]?) -> GIs wz a1 q c1 a2 n2 c2 cs crs:=fun wz hz1 hz2=>by
     refine HGK.out wz (by omega) (fun b e1 e2=>?_)
     rw [hz2 b e1 (by omega),HBQ.out.block b (by omega),hblk3.out b e2]
    unfold xz
    rw [if_pos (by rw [HLB.out];exact HALL.out),<- HCS.out,<- HCRS.out]
    have hgr2 : gr < w2.heap.size:=Nat.lt_of_lt_of_le hne.out.2.2.2.2 HW12.out
    refine ⟨_,_,_,_,_,_,rfl,key _ (by rw [hss];exact Nat.le_refl _) (fun b e1 _=>qt (by omega)),fun wz hz1 hz2=>key wz (by rw [hss] at hz1;exact hz1) (fun b e1 e2=>(hz2 b (Nat.le_trans hsw.out e1) (by rw [hss];exact e2)).trans (qt (by omega))),y8 (HB2.out.trans (HBW.out.mono HB2.out.size)) hne.out.2.2.1⟩
end Go.Proofs.YticimejfjjmikaaGreatDoor
namespace Go.Proofs
open Go.Shelf
def Tryz.laysM316_ren : Go.Shelf.Ren:=⟨fun | 316=>114 | n=>n,fun | 9=>9 | 3=>3 | 4=>4 | 37=>123 | 0=>0 | 127=>212 | 5=>5 | n=>n,fun | n=>n⟩
theorem Tryz.laysM316 : Go.Proofs.LaysM.n316 Tryz.prog Tryz.laysM316_ren:={
 mixed:=by kernel_rfl
 f316:=Tryz.func114.trans (congrArg some (by kernel_rfl))
 t0:=Tryz.underlying0
 a0:=Tryz.isAgg0
 z0:=Tryz.sizeOf0
 v0:=Tryz.zeroValue0
 t3:=Tryz.underlying3
 a3:=Tryz.isAgg3
 z3:=Tryz.sizeOf3
 v3:=Tryz.zeroValue3
 t4:=Tryz.underlying4
 a4:=Tryz.isAgg4
 z4:=Tryz.sizeOf4
 v4:=Tryz.zeroValue4
 t9:=Tryz.underlying9
 a9:=Tryz.isAgg9
 z9:=Tryz.sizeOf9
 v9:=Tryz.zeroValue9
 t37:=Tryz.underlying123
 a37:=Tryz.isAgg123
 z37:=Tryz.sizeOf123
 v37:=Tryz.zeroValue123
 t127:=Tryz.underlying212
 a127:=Tryz.isAgg212
 z127:=Tryz.sizeOf212
 v127:=Tryz.zeroValue212
 t5:=Tryz.underlying5
 a5:=Tryz.isAgg5
 z5:=Tryz.sizeOf5
 v5:=Tryz.zeroValue5
 i0:=by kernel_rfl
 i3:=by kernel_rfl
 i4:=by kernel_rfl
 i5:=by kernel_rfl
 i9:=by kernel_rfl
 i37:=by kernel_rfl
 i127:=by kernel_rfl }
end Go.Proofs
