import Derived.Test.YticimejfjjmikaaGreatDoorW16
import Derived.Test.YticimejfjjmikaaGreatDoorW5
import Derived.Test.YticimejfjjmikaaGreatDoorX0
import Derived.Test.YticimejfjjmikaaGreatDoorW11
set_option linter.unusedVariables false
set_option linter.unusedSimpArgs false
namespace Go.Proofs.YticimejfjjmikaaGreatDoor
open Go.RowKit
def RPrint (w : World) (neg : Bool) (v : Nat) (radix : Nat) (e : Ending) (w' : World) : Prop :=
 ∃ s D,e = .returned (.tuple #[.string s,.int .i64 0]) /\ Dg radix D /\ Tr D /\ val radix D = v /\ bs s = (if D = [] then [48] else (if neg then [45] else []) ++ (D.map chr).reverse) /\ Below w.heap.size w w'
theorem or_i64_8 (a d : Nat) (h1 : a < 36) (h2 : d < 256) : bits .or .i64 ((a : Int) * 256) (d : Int) = ((a * 256 + d : Nat) : Int):=by
 rw [show ((a : Int) * 256) = ((a * 256 : Nat) : Int) by omega]
 have h3 : (BitVec.ofInt 64 ((a * 256 : Nat) : Int)).toNat = a * 256:=by
  rw [BitVec.ofInt_natCast,BitVec.toNat_ofNat];exact Nat.mod_eq_of_lt (by omega)
 have h4 : (BitVec.ofInt 64 ((d : Nat) : Int)).toNat = d:=by
  rw [BitVec.ofInt_natCast,BitVec.toNat_ofNat];exact Nat.mod_eq_of_lt (by omega)
 show IntKind.i64.wrap ((BitVec.ofInt 64 ((a * 256 : Nat) : Int) ||| BitVec.ofInt 64 (d : Int)).toNat : Int) = _
 rw [BitVec.toNat_or,h3,h4,nat_join 8 _ _ (by omega) (by omega),IntKind.wrap_i64]
 omega
theorem dt_slice (d : Nat) (h : d < 36) : bs (digitText.extract d (d + 1)) = [chr d]:=by
 have : ∀ d : Fin 36,bs (digitText.extract d.1 (d.1 + 1)) = [chr d.1]:=by decide
 exact this ⟨d,h⟩
theorem bs_append (s t : ByteArray) : bs (s ++ t) = bs s ++ bs t:=by
 unfold bs;simp
theorem pow_bound8 {l : List Nat} (h : Dg 256 l) (hl : l.length <= 160) : ∃ N,N <= 1280 /\ val 256 l < 2 ^ N:=by
 refine ⟨8 * l.length,by omega,?_⟩
 have:=val_lt h
 rw [show 256 = 2 ^ 8 from rfl,<- Nat.pow_mul] at this
 exact this
set_option maxRecDepth 100000 in
set_option maxHeartbeats 4000000 in
theorem rprint_any (neg : Bool) (ao : Option Addr) (n cap : Nat) (l : List Nat) (radix : Nat) (w : World) (R : Row .u32 B32 w ao n cap l) (hn40 : n <= 40) (hr1 : 2 <= radix) (hr2 : radix <= 36) :
  Calls Tryz.prog 81 #[.agg #[.bool neg,.slice ao n cap],.int .i64 radix] w (RPrint w neg (val B32 l) radix):=by
 have HR:=hid R
 clear R
 have e1 : decide ((radix : Int) < 2) = false:=by simp;omega
 have e2 : decide ((36 : Int) < radix) = false:=by simp;omega
 go_enter Tryz.func81,Tryz.ntmps81
 go_wp2_with fail
 have X0:=Box.new 104 w neg ao n cap
 have hb0:=Ba w (.cells #[.bool neg,.slice ao n cap] 104)
 have hsz0:=size_alloc w (.cells #[.bool neg,.slice ao n cap] 104)
 generalize w.alloc (.cells #[.bool neg,.slice ao n cap] 104) = W0 at *
 refine (bytes_any neg ao n cap l W0 (HR.out.below hb0) (by omega)).mono ?_
 rintro e w1 ⟨m1,ao1,cap1,l1,rfl,hm1,hO1,ht1,hv1,b1⟩
 rw [hsz0] at hO1
 have X1:=hid (X0.on b1)
 have HB1:=hid (Bt hb0 b1)
 have HO1:=hid hO1
 have HT1:=hid ht1
 have HV1:=hid hv1
 clear X0 hb0 hsz0 hO1 ht1 hv1 b1
 obtain ⟨N,hN,hNv⟩:=pow_bound8 HO1.out.row.dg (by rw [HO1.out.row.len];omega)
 have HNV:=hid hNv
 clear hNv
 go_wp2
 go_loopg [6,7,8,9] N (fun gk b s _ _ wr=>∃ m c : Nat,∃ ad : Option Addr,∃ r D : List Nat,∃ S : ByteArray,b = .slice ad m c /\ s = .string S /\ m <= 160 /\ c <= maxLen /\ D.length + gk <= N /\ Hid (Own .u8 5 256 (w.heap.size + 1) wr ad m c r /\ Tr r /\ bs S = (D.map chr).reverse /\ Dg radix D /\ (r = [] -> Tr D) /\ val radix D + radix ^ D.length * val 256 r = val B32 l /\ Box 104 wr w.heap.size neg ao n cap /\ Below w.heap.size w wr /\ val 256 r < 2 ^ gk))
 case atStart =>
  exact ⟨m1,cap1,ao1,l1,[],⟨#[]⟩,rfl,rfl,by omega,HO1.out.row.most,by simp,HO1.out,HT1.out,rfl,Dg.nil _,fun _=>Tr.nil,by simp [val];exact HV1.out,X1.out,HB1.out,HNV.out⟩
 case round =>
  obtain ⟨m,c,ad,r,D,S,rfl,rfl,hm,hc,hDk,hI⟩:=hrel
  unfold maxLen at hc
  obtain ⟨i1,i2,i3,i4,i5,i6,i7,i8,i9⟩:=hI.out
  clear hI
  by_cases hm0 : m = 0
  ·subst hm0
   have hrn : r = []:=List.length_eq_zero_iff.1 i1.row.len
   subst hrn
   have HT:=hid (i5 rfl)
   have HV : Hid (val radix D = val B32 l):=by have:=i6;simp [val] at this;exact this
   have HDg:=hid i4
   have HBS:=hid i3
   have HBL:=hid i8
   have HBX:=hid i7
   obtain ⟨c0,c1⟩:=HBX.out.c
   clear i1 i2 i3 i4 i5 i6 i7 i8 i9
   by_cases hD : D = []
   ·subst hD
    have hem : S.toList.isEmpty = true:=by rw [empty_iff];have:=HBS.out;rw [<- bs_length,this];rfl
    go_wp2
    go_ret2
    exact ⟨_,[],rfl,Dg.nil _,Tr.nil,HV.out,by rw [if_pos rfl];rfl,HBL.out⟩
   ·have hem : S.toList.isEmpty = false := by
     rw [empty_iff,<- bs_length,HBS.out];simp [hD]
    cases neg
    ·go_wp2
     go_ret2
     exact ⟨S,D,rfl,HDg.out,HT.out,HV.out,by rw [HBS.out,if_neg hD];rfl,HBL.out⟩
    ·have hSz : S.size <= 1280 := by rw [<- bs_length, HBS.out]; simp; omega
     have hcat : ¬ 9223372036854775807 < 1 + S.size:=by omega
     go_wp2
     go_ret2
     exact ⟨_,D,rfl,HDg.out,HT.out,HV.out,by rw [if_neg hD,bs_append,HBS.out];rfl,HBL.out⟩
  ·have e0 : decide ((0 : Int) < m) = true := by simp; omega
   obtain ⟨g,cur,hu,hg,hW⟩:=i1.own.resolve_left hm0
   subst hu
   have HG:=hid hg
   have HW:=hid hW
   have HDr:=hid i1.row.dg
   have HLr:=hid i1.row.len
   have hcf:=i1.row.fits
   have I:=hid (And.intro i2 (And.intro i3 (And.intro i4 (And.intro i6 (And.intro i7 (And.intro i8 i9))))))
   clear i1 i2 i3 i4 i5 i6 i7 i8 i9 hg hW
   obtain ⟨wo,hwo⟩ : ∃ wo : World,Hid (wo = wr):=⟨_,rfl⟩
   go_wp2
   go_loopw [8,9] (fun t i wx=>∃ j rr : Nat,∃ q : List Nat,j <= m /\ i = .int .i64 ((j : Int) - 1) /\ t = .int .i64 rr /\ rr < radix /\ Hid (q.length = m - j /\ Dg 256 q /\ val 256 (r.drop j) = val 256 q * radix + rr /\ Onto .u8 5 g 0 m wo wx cur (r.take j ++ q))) (fun _ i _=>(intOf i + 1).toNat)
   case atStart=>exact ⟨m,0,[],Nat.le_refl _,rfl,rfl,by omega,by simp,Dg.nil _,by rw [List.drop_eq_nil_of_le (by rw [HLr.out];omega)];simp [val],by
    rw [List.take_of_length_le (by rw [HLr.out];omega),List.append_nil,hwo.out];exact HW.out.onto⟩
   case round =>
    obtain ⟨j,rr,q,hj,rfl,rfl,hrr,hH⟩:=hrel
    by_cases hz : j = 0
    ·subst hz
     obtain ⟨h1,h2,h3,h4⟩:=hH.out
     rw [List.take_zero,List.nil_append] at h4
     rw [List.drop_zero] at h3
     have HQL:=hid h1
     have HQD:=hid h2
     have HQV:=hid h3
     have HQO:=hid h4
     have HRow : Hid (Row .u8 256 wr (some ⟨g,0,none⟩) m c q):=by
      obtain ⟨cur2,hW2,_,_⟩:=h4.row
      exact ⟨hW2.len,hcf,by unfold maxLen;omega,fun h=>(by cases h),h2,hW2.rd⟩
     have hb' : Below (w.heap.size + 1) wo wr:=h4.below HG.out
     have HBX:=hid ((show Box 104 wo w.heap.size neg ao n cap by rw [hwo.out];exact I.out.2.2.2.2.1).below hb' (Nat.lt_succ_self _))
     have HBL:=hid ((show Below w.heap.size w wo by rw [hwo.out];exact I.out.2.2.2.2.2.1).trans (hb'.mono (Nat.le_succ _)))
     have hszr : Hid (w.heap.size + 1 <= wr.heap.size):=HBX.out.lt
     clear h1 h2 h3 h4 hb' hH
     go_wp2_with fail
     refine (rtrim_any (some ⟨g,0,none⟩) m c q wr HRow.out (by omega)).mono ?_
     rintro e w3 ⟨m',ao',cap',hm',rfl,hO',ht',hv',b3⟩
     have HO':=hid (hO'.base hszr.out)
     have HT':=hid ht'
     have HV':=hid hv'
     have HBX3:=hid (HBX.out.on b3)
     have HBL3:=hid (Bt HBL.out b3)
     have hdt:=dt_slice rr (by omega)
     have HDT:=hid hdt
     have hSz : S.size <= 1280:=by rw [<- bs_length,I.out.2.1];simp;omega
     have hcat : ¬ 9223372036854775807 < min (rr + 1) 36 - rr + S.size:=by omega
     clear hO' ht' hv' b3 hdt
     go_wp2
     have hne:=I.out.1.ne_zero (B:=256) (by decide) (fun e=>hm0 (by rw [<- HLr.out,e];rfl))
     have hhalf:=half_lt hr1 hne I.out.2.2.2.2.2.2
     have hvq : val 256 q = val 256 r / radix:=by
      rw [HQV.out,Nat.mul_comm,Nat.mul_add_div (by omega),Nat.div_eq_of_lt hrr,Nat.add_zero]
     have hrq : rr = val 256 r % radix:=by
      rw [HQV.out,Nat.mul_comm,Nat.mul_add_mod,Nat.mod_eq_of_lt hrr]
     go_roundg (gk - 1)
     case measure=>have:=hhalf.1;omega
     case rel =>
      refine ⟨m',cap',ao',q.take m',D ++ [rr],_,rfl,rfl,by omega,HO'.out.row.most,by simp;omega,HO'.out,HT'.out,?_,I.out.2.2.1.append (Dg.one hrr),?_,?_,HBX3.out,HBL3.out,?_⟩
      ·have h5 := HDT.out
       unfold digitText at h5
       rw [bs_append,h5,I.out.2.1];simp
      ·intro hnil
       refine tr_snoc fun hd0=>?_
       have h1 : val 256 q = 0:=by rw [<- HV'.out,hnil];rfl
       have h2:=HQV.out
       rw [h1,hd0] at h2
       simp at h2
       exact hne h2
      ·rw [val_snoc, List.length_append, HV'.out, hvq]
       show val radix D + radix ^ D.length * rr + radix ^ (D.length + 1) * (val 256 r / radix) = _
       rw [Nat.pow_succ,hrq]
       exact print_val I.out.2.2.2.1
      ·rw [HV'.out,hvq];exact hhalf.2
    ·obtain ⟨p, rfl⟩ : ∃ p, j = p + 1 := ⟨j - 1, by omega⟩
     obtain ⟨d,hd⟩ : ∃ d,d = r.getD p 0:=⟨_,rfl⟩
     have hll : p < r.length:=by rw [HLr.out];omega
     have hdb : d < 256:=by rw [hd];exact HDr.out.getD _ hll
     have hc : wr.cell? ⟨g,p,none⟩ = some (.int .u8 d):=by
      have:=hH.out.2.2.2.cell (i:=p) (by omega)
      rw [getD_append_left (by rw [List.length_take];omega),getD_take (by omega),<- hd,Nat.zero_add] at this
      exact this
     have hf : wr.frozen? ⟨g,p,none⟩ = false:=hH.out.2.2.2.frozen _
     have H1:=hid hd
     have HP:=hid hll
     clear hd hll
     have hor:=or_i64_8 rr d (by omega) hdb
     obtain ⟨t,ht⟩ : ∃ t,t = rr * 256 + d:=⟨_,rfl⟩
     rw [<- ht] at hor
     obtain ⟨Q,hQ⟩ : ∃ Q,Q = t / radix:=⟨_,rfl⟩
     have hQ2 : (t : Int).tdiv radix = (Q : Int):=by rw [hQ];rfl
     have hR2 : (t : Int).tmod radix = ((t % radix : Nat) : Int):=rfl
     have hRv : t % radix < radix:=Nat.mod_lt _ (by omega)
     have hQb : Q < 256:=by
      rw [hQ,Nat.div_lt_iff_lt_mul (by omega)]
      have : (rr + 1) * 256 <= radix * 256:=Nat.mul_le_mul_right _ hrr
      rw [Nat.add_mul] at this
      rw [Nat.mul_comm 256 radix]
      omega
     have HT:=hid ht
     have HQ:=hid hQ
     have htb : t < 10000:=by omega
     clear ht hQ
     go_wp2
     obtain ⟨h1,h2,h3,h4⟩:=hH.out
     refine ⟨⟨p,t % radix,Q :: q,by omega,rfl,rfl,hRv,?_,?_,?_,?_⟩,by simp [intOf] <;> omega⟩
     ·simp [h1];omega
     ·exact fun x hx=>by rcases List.mem_cons.1 hx with rfl | hx;exact hQb;exact h2 x hx
     ·rw [divStep (by omega) p r HP.out h3 hrr,<- H1.out,val_cons,<- HT.out,<- HQ.out]
     ·rw [<- set_take_append HP.out]
      have:=h4.store (i:=p) (by omega) Q
      rw [Nat.zero_add] at this
      exact this
theorem Tr.tail {a : Nat} {t : List Nat} (h : Tr (a :: t)) : Tr t:=by
 cases t with
 | nil=>exact .inl rfl
 | cons c t =>
  rcases h with h | h
  ·cases h
  ·refine .inr ?_
   simpa using h
theorem digits_unique {B : Nat} (hB : 1 < B) : ∀ {D D' : List Nat},Dg B D -> Dg B D' -> Tr D -> Tr D' -> val B D = val B D' -> D = D'
 | [],[],_,_,_,_,_=>rfl
 | [],b :: t',_,_,_,h4,h=>by
  have:=h4.ne_zero (B:=B) (by omega) (by simp)
  exact absurd h.symm this
 | a :: t,[],_,_,h3,_,h=>by
  have:=h3.ne_zero (B:=B) (by omega) (by simp)
  exact absurd h this
 | a :: t, b :: t', h1, h2, h3, h4, h => by
  have ha : a < B:=h1 a (by simp)
  have hb : b < B:=h2 b (by simp)
  rw [val_cons,val_cons] at h
  have e1 : a = b:=by
   have:=congrArg (· % B) h
   simp only [Nat.add_mul_mod_self_left] at this
   rwa [Nat.mod_eq_of_lt ha,Nat.mod_eq_of_lt hb] at this
  subst e1
  have e2 : val B t = val B t':=Nat.eq_of_mul_eq_mul_left (show 0 < B by omega) (by omega)
  rw [digits_unique hB (fun x hx=>h1 x (by simp [hx])) (fun x hx=>h2 x (by simp [hx])) h3.tail h4.tail e2]
theorem bs_ext {s t : ByteArray} (h : bs s = bs t) : s = t:=by
 cases s with | mk a=>cases t with | mk b =>
 have : a.toList = b.toList:=map_toNat_inj h
 rw [Array.toList_inj.1 this]
def Printed (neg : Bool) (v : Nat) (radix : Int) (s : ByteArray) (en : Int) : Prop :=
 (¬ (2 <= radix /\ radix <= 36) /\ bs s = [] /\ en = 1) \/
 ((2 <= radix /\ radix <= 36) /\ en = 0 /\ ∃ D,Dg radix.toNat D /\ Tr D /\ val radix.toNat D = v /\ bs s = (if D = [] then [48] else (if neg then [45] else []) ++ (D.map chr).reverse))
def PrPost (w : World) (neg : Bool) (v : Nat) (radix : Int) (e : Ending) (w' : World) : Prop:=∃ s en,e = .returned (.tuple #[.string s,.int .i64 en]) /\ Printed neg v radix s en /\ Below w.heap.size w w'
set_option maxHeartbeats 2000000 in
theorem print_all (neg : Bool) (ao : Option Addr) (n cap : Nat) (l : List Nat) (radix : Int) (w : World) (R : Row .u32 B32 w ao n cap l) (g1 : goodB neg l = true) :
  Calls Tryz.prog 160 #[.agg #[.bool neg,.slice ao n cap],.int .i64 radix] w (PrPost w neg (val B32 l) radix):=by
 by_cases hr : 2 <= radix /\ radix <= 36
 ·obtain ⟨rx, rfl⟩ := Int.eq_ofNat_of_zero_le (by omega : 0 <= radix)
  by_cases h0 : n = 0
  ·subst h0
   have HC : Hid (∀ wx,Calls Tryz.prog 183 #[.int .i64 rx] wx fun e w'=>e = .returned (.bool true) /\ w' = wx):=fun wx=>(isRadix_any rx wx).mono fun e w' ⟨h1,h2⟩=>⟨by rw [h1];simp;omega,h2⟩
   have hl : l = []:=List.length_eq_zero_iff.1 R.len
   subst hl
   have HR:=hid R
   have G1:=hid g1
   have HRX:=hid hr
   clear R g1 hr
   go_enter Tryz.func160,Tryz.ntmps160
   go_wp2_with fail
   refine (HC.out _).mono ?_
   rintro e wx ⟨rfl,hwx⟩
   rw [hwx]
   clear hwx
   go_wp2_with fail
   refine (good_any neg ao 0 cap [] _ (HR.out.below (Ba _ _))).mono ?_
   rintro e w1 ⟨rfl,hb1⟩
   rw [G1.out]
   have X1:=hid ((Box.new 104 w neg ao 0 cap).on hb1)
   have HB1:=hid (Bt (Ba w (.cells #[.bool neg,.slice ao 0 cap] 104)) hb1)
   obtain ⟨c0,c1⟩:=X1.out.c
   clear hb1
   go_wp2
   go_ret2
   exact ⟨_,_,rfl,.inr ⟨HRX.out,rfl,[],Dg.nil _,Tr.nil,rfl,by rw [if_pos rfl];rfl⟩,HB1.out⟩
  ·refine (print_any neg ao n cap l rx w R g1 (by omega) (by omega) h0).mono fun e w' ⟨s, D, h1, h2, h3, h4, h5, h6⟩ => ⟨s, 0, h1, .inr ⟨hr, rfl, D, h2, h3, h4, ?_⟩, h6⟩
   have hD : D ≠ []:=by
    intro e
    subst e
    have:=(goodB_tr g1).ne_zero (B:=B32) (by decide) (fun e=>h0 (by rw [<- R.len,e];rfl))
    exact this h4.symm
   rw [h5,if_neg hD]
 ·have HC : Hid (∀ wx, Calls Tryz.prog 183 #[.int .i64 radix] wx fun e w' => e = .returned (.bool false) /\ w' = wx) := fun wx => (isRadix_any radix wx).mono fun e w' ⟨h1, h2⟩ => ⟨by rw [h1]; simp; omega, h2⟩
  have HR:=hid hr
  clear hr R g1
  go_enter Tryz.func160,Tryz.ntmps160
  go_wp2_with (go_at_call 183;refine (HC.out _).mono ?_;rintro e wx ⟨rfl,hwx⟩;rw [hwx];clear hwx)
  go_ret2
  exact ⟨_,_,rfl,.inl ⟨HR.out,rfl,rfl⟩,Ba _ _⟩
set_option maxHeartbeats 2000000 in
theorem rprint_all (neg : Bool) (ao : Option Addr) (n cap : Nat) (l : List Nat) (radix : Int) (w : World) (R : Row .u32 B32 w ao n cap l) (hn : n <= 40) :
  Calls Tryz.prog 81 #[.agg #[.bool neg,.slice ao n cap],.int .i64 radix] w (PrPost w neg (val B32 l) radix):=by
 by_cases hlo : radix < 2
 ·have e1 : decide (radix < 2) = true := by simp [hlo]
  have HN : Hid (¬ (2 <= radix /\ radix <= 36)):=fun h=>by omega
  clear R
  go_enter Tryz.func81,Tryz.ntmps81
  go_wp2
  go_ret2
  exact ⟨_,_,rfl,.inl ⟨HN.out,rfl,rfl⟩,Ba _ _⟩
 by_cases hhi : 36 < radix
 ·have e1 : decide (radix < 2) = false := by simp; omega
  have e2 : decide (36 < radix) = true:=by simp [hhi]
  have HN : Hid (¬ (2 <= radix /\ radix <= 36)):=fun h=>by omega
  clear R
  go_enter Tryz.func81,Tryz.ntmps81
  go_wp2
  go_ret2
  exact ⟨_,_,rfl,.inl ⟨HN.out,rfl,rfl⟩,Ba _ _⟩
 obtain ⟨rx,rfl⟩:=Int.eq_ofNat_of_zero_le (by omega : 0 <= radix)
 exact (rprint_any neg ao n cap l rx w R hn (by omega) (by omega)).mono fun e w' ⟨s,D,h1,h2,h3,h4,h5,h6⟩=>⟨s,0,h1,.inr ⟨by omega,rfl,D,h2,h3,h4,h5⟩,h6⟩
structure Nd where
 kind : Int
 num : Int
 text : ByteArray
 kids : List Int
instance : Inhabited Nd:=⟨⟨0,0,ByteArray.empty,[]⟩⟩
def I64 (z : Int) : Prop:=-9223372036854775808 <= z /\ z <= 9223372036854775807
structure IRow (w : World) (ao : Option Addr) (n cap : Nat) (l : List Int) : Prop where
 len : l.length = n
 fits : n <= cap
 most : cap <= maxLen
 nil_ : ao = none -> cap = 0
 bd : ∀ z∈l,I64 z
 rd : l = [] \/ ∃ b o,ao = some ⟨b,o,none⟩ /\ b < w.heap.size /\ ∀ i,i < l.length -> w.cell? ⟨b,o + i,none⟩ = some (.int .i64 (l.getD i 0))
theorem IRow.some {w : World} {ao : Option Addr} {n cap : Nat} {l : List Int} (h : IRow w ao n cap l) (hl : 0 < n) :
  ∃ b o,ao = some ⟨b,o,none⟩ /\ b < w.heap.size /\ ∀ i,i < n -> w.cell? ⟨b,o + i,none⟩ = some (.int .i64 (l.getD i 0)):=by
 rcases h.rd with e | h2
 ·have:=h.len;simp [e] at this;omega
 ·rw [h.len] at h2;exact h2
theorem IRow.below {w w' : World} {ao : Option Addr} {n cap : Nat} {l : List Int} (h : IRow w ao n cap l) (hb : Below w.heap.size w w') : IRow w' ao n cap l:=by
 refine ⟨h.len,h.fits,h.most,h.nil_,h.bd,?_⟩
 rcases h.rd with e | ⟨b,o,e,hl,hc⟩
 ·exact .inl e
 ·exact .inr ⟨b,o,e,Nat.lt_of_lt_of_le hl hb.size,fun i hi=>(hb.cell (p:=⟨b,o + i,none⟩) hl).trans (hc i hi)⟩
theorem IRow.nil (w : World) (ao : Option Addr) : IRow w ao 0 0 []:=⟨rfl,Nat.le_refl _,Nat.zero_le _,fun _=>rfl,fun _ h=>(by cases h),.inl rfl⟩
theorem IRow.get {w : World} {ao : Option Addr} {n cap : Nat} {l : List Int} (h : IRow w ao n cap l) {i : Nat} (hi : i < n) : I64 (l.getD i 0):=by
 have hi' : i < l.length:=by rw [h.len];exact hi
 rw [List.getD_eq_getElem?_getD,List.getElem?_eq_getElem hi']
 exact h.bd _ (List.getElem_mem hi')
def NdAt (w : World) (b o : Nat) (d : Nd) : Prop :=
 w.cell? ⟨b,o,none⟩ = some (.int .i64 d.kind) /\ w.cell? ⟨b,o + 1,none⟩ = some (.int .i64 d.num) /\ w.cell? ⟨b,o + 2,none⟩ = some (.string d.text) /\
  ∃ ao n cap,w.cell? ⟨b,o + 3,none⟩ = some (.slice ao n cap) /\ IRow w ao n cap d.kids
theorem NdAt.below {w w' : World} {b o : Nat} {d : Nd} (h : NdAt w b o d) (hl : b < w.heap.size) (hb : Below w.heap.size w w') : NdAt w' b o d:=by
 obtain ⟨h1,h2,h3,ao,n,cap,h4,h5⟩:=h
 exact ⟨(hb.cell (p:=⟨b,o,none⟩) hl).trans h1,(hb.cell (p:=⟨b,o + 1,none⟩) hl).trans h2,(hb.cell (p:=⟨b,o + 2,none⟩) hl).trans h3,ao,n,cap,(hb.cell (p:=⟨b,o + 3,none⟩) hl).trans h4,h5.below hb⟩
def NdOk (d : Nd) : Prop:=I64 d.kind /\ I64 d.num /\ d.text.size <= maxLen
structure NRow (w : World) (ao : Option Addr) (n cap : Nat) (l : List Nd) : Prop where
 len : l.length = n
 fits : n <= cap
 most : cap <= maxLen
 nil_ : ao = none -> cap = 0
 ok : ∀ d∈l,NdOk d
 rd : l = [] \/ ∃ b o,ao = some ⟨b,o,none⟩ /\ b < w.heap.size /\ ∀ i,i < l.length -> NdAt w b (o + i * 4) (l.getD i default)
theorem NRow.some {w : World} {ao : Option Addr} {n cap : Nat} {l : List Nd} (h : NRow w ao n cap l) (hl : 0 < n) :
  ∃ b o,ao = some ⟨b,o,none⟩ /\ b < w.heap.size /\ ∀ i,i < n -> NdAt w b (o + i * 4) (l.getD i default):=by
 rcases h.rd with e | h2
 ·have:=h.len;simp [e] at this;omega
 ·rw [h.len] at h2;exact h2
theorem NRow.below {w w' : World} {ao : Option Addr} {n cap : Nat} {l : List Nd} (h : NRow w ao n cap l) (hb : Below w.heap.size w w') : NRow w' ao n cap l:=by
 refine ⟨h.len,h.fits,h.most,h.nil_,h.ok,?_⟩
 rcases h.rd with e | ⟨b,o,e,hl,hc⟩
 ·exact .inl e
 ·exact .inr ⟨b,o,e,Nat.lt_of_lt_of_le hl hb.size,fun i hi=>(hc i hi).below hl hb⟩
theorem NRow.get {w : World} {ao : Option Addr} {n cap : Nat} {l : List Nd} (h : NRow w ao n cap l) {i : Nat} (hi : i < n) : NdOk (l.getD i default):=by
 have hi' : i < l.length:=by rw [h.len];exact hi
 rw [List.getD_eq_getElem?_getD,List.getElem?_eq_getElem hi']
 exact h.ok _ (List.getElem_mem hi')
theorem NRow.nil (w : World) (ao : Option Addr) : NRow w ao 0 0 []:=⟨rfl,Nat.le_refl _,Nat.zero_le _,fun _=>rfl,fun _ h=>(by cases h),.inl rfl⟩
def GVal (an : Option Addr) (nn cn : Nat) (ar : Option Addr) (nr cr : Nat) : Value:=.agg #[.slice an nn cn,.slice ar nr cr]
structure GIs (w : World) (an : Option Addr) (nn cn : Nat) (ar : Option Addr) (nr cr : Nat) (ns : List Nd) (rs : List Int) : Prop where
 nodes : NRow w an nn cn ns
 roots : IRow w ar nr cr rs
theorem GIs.below {w w' : World} {an ar : Option Addr} {nn cn nr cr : Nat} {ns : List Nd} {rs : List Int} (h : GIs w an nn cn ar nr cr ns rs) (hb : Below w.heap.size w w') : GIs w' an nn cn ar nr cr ns rs:=⟨h.nodes.below hb,h.roots.below hb⟩
def GBox (t : TypeId) (w : World) (p : Nat) (an : Option Addr) (nn cn : Nat) (ar : Option Addr) (nr cr : Nat) : Prop:=w.heap[p]? = some (.cells #[.slice an nn cn,.slice ar nr cr] t (0,0))
theorem GBox.lt {t : TypeId} {w : World} {p : Nat} {an ar : Option Addr} {nn cn nr cr : Nat} (h : GBox t w p an nn cn ar nr cr) : p < w.heap.size:=(Array.getElem?_eq_some_iff.1 h).1
theorem GBox.on {t : TypeId} {w w' : World} {p : Nat} {an ar : Option Addr} {nn cn nr cr : Nat} (h : GBox t w p an nn cn ar nr cr) (hb : Below w.heap.size w w') : GBox t w' p an nn cn ar nr cr:=(hb.block p h.lt).trans h
theorem GBox.c {t : TypeId} {w : World} {p : Nat} {an ar : Option Addr} {nn cn nr cr : Nat} (h : GBox t w p an nn cn ar nr cr) : w.cell? ⟨p,0,none⟩ = some (.slice an nn cn) /\ w.cell? ⟨p,1,none⟩ = some (.slice ar nr cr):=⟨blk_cell h 0,blk_cell h 1⟩
theorem GBox.new (t : TypeId) (w : World) (an ar : Option Addr) (nn cn nr cr : Nat) : GBox t (w.alloc (.cells #[.slice an nn cn,.slice ar nr cr] t)) w.heap.size an nn cn ar nr cr:=blk_new _ _ _
def fewTo (ns : List Nd) (k : Nat) : Bool:=(ns.take k).all fun d=>decide (d.text.size <= 2000) && decide (d.kids.length <= 100)
def fewB (ns : List Nd) (rs : List Int) (most : Nat) : Bool:=decide (ns.length <= most) && decide (rs.length <= most) && fewTo ns ns.length
theorem fewTo_succ {ns : List Nd} {k : Nat} (h : k < ns.length) : fewTo ns (k + 1) = (fewTo ns k && (decide ((ns.getD k default).text.size <= 2000) && decide ((ns.getD k default).kids.length <= 100))):=by
 unfold fewTo
 rw [List.take_succ_eq_append_getElem h,List.all_append,List.getD_eq_getElem?_getD,List.getElem?_eq_getElem h];simp
theorem fewTo_false {ns : List Nd} {k j : Nat} (hk : k < j) (hj : j <= ns.length) (h : fewTo ns (k + 1) = false) : fewTo ns j = false:=by
 unfold fewTo at *
 rw [List.all_eq_false] at h ⊢
 obtain ⟨x,hx,h2⟩:=h
 refine ⟨x,?_,h2⟩
 exact (List.take_prefix_take_left (l:=ns) (by omega : k + 1 <= j)).subset hx
theorem store2 {w : World} {g : Nat} {a b v1 v2 : Value} {t : TypeId} (h : w.heap[g]? = some (.cells #[a,b] t (0,0))) : ((w.setCell ⟨g,0,none⟩ v1).setCell ⟨g,1,none⟩ v2).heap[g]? = some (.cells #[v1,v2] t (0,0)):=by
 have h1:=blk_set (i:=0) h v1
 have h2:=blk_set (i:=1) h1 v2
 rw [h2];rfl
theorem store2_far {w : World} {g b : Nat} {v1 v2 : Value} (h : b ≠ g) : ((w.setCell ⟨g,0,none⟩ v1).setCell ⟨g,1,none⟩ v2).heap[b]? = w.heap[b]? :=
 (Below.heap_setCell _ _ _ _ h).trans (Below.heap_setCell _ _ _ _ h)
theorem store2_below {n : Nat} {w0 w : World} {g : Nat} {v1 v2 : Value} (h : Below n w0 w) (hg : n <= g) : Below n w0 ((w.setCell ⟨g,0,none⟩ v1).setCell ⟨g,1,none⟩ v2) :=
 (h.setCell (p:=⟨g,0,none⟩) hg _).setCell (p:=⟨g,1,none⟩) hg _
def fixB (z : Int) : Bool:=decide (-1152921504606846976 <= z) && decide (z < 1152921504606846976)
def nK (x : Int) : Int:=(ofR x).1
def nN (x : Int) : Int:=(ofR x).2.1
def limbB (x : Int) : Bool:=decide (nK x = 1) && (decide (0 <= nN x) && decide (nN x < 4294967296))
def numNeg (l : List Int) : Bool:=decide (nN (l.getD 0 0) = 1)
def numMag (l : List Int) : List Nat:=(l.drop 1).map (fun y=>(nN y).toNat)
def bigB (l : List Int) : Bool:=decide (0 < l.length) && (l.all limbB && (decide (nN (l.getD 0 0) <= 1) && (goodB (numNeg l) (numMag l) && !fixB (sgn (numNeg l) (val B32 (numMag l))))))
def byB (x : Int) : Bool:=decide (nK x = 1) && (decide (0 <= nN x) && decide (nN x <= 255))
def lrB (x : Int) : Bool:=decide (nK x = 4)
def byT (l : List Int) : List Nat:=l.map (fun x=>(nN x).toNat)
def lrT (l : List Int) : List Nat:=l.flatMap (fun x=>bs (Utf8.encode (nN x)))
def voidN : Nd:=⟨11,0,ByteArray.empty,[]⟩
abbrev Hp:=Int -> Option (Int × List Int)
section
variable {O : Hp}
def Eqv (O : Hp) (a b : Int) : Prop:=a = b \/ ∃ f,O a = some (5,f) /\ O b = some (5,f) /\ bigB f = true
def Bis (O : Hp) (R : Int -> Int -> Prop) : Prop:=∀ a b,R a b -> Eqv O a b \/ ∃ k f g,O a = some (k,f) /\ O b = some (k,g) /\ (1 <= k /\ k <= 4) /\ f.length = g.length /\ ∀ j,j < f.length -> R (f.getD j 0) (g.getD j 0)
def Alike (O : Hp) (a b : Int) : Prop:=∃ R,Bis O R /\ R a b
theorem Eqv.refl (a : Int) : Eqv O a a:=.inl rfl
theorem Eqv.alike {a b : Int} (h : Eqv O a b) : Alike O a b:=⟨Eqv O,fun a b h=>.inl h,h⟩
theorem alike_bis : Bis O (Alike O):=by
 rintro a b ⟨R,hR,h⟩
 rcases hR a b h with h | ⟨k,f,g,h1,h2,h3,h4,h5⟩
 ·exact .inl h
 ·exact .inr ⟨k,f,g,h1,h2,h3,h4,fun j hj=>⟨R,hR,h5 j hj⟩⟩
theorem Alike.refl (a : Int) : Alike O a a:=(Eqv.refl a).alike
def May (O : Hp) (a b : Int) : Prop:=∃ k f g,O a = some (k,f) /\ O b = some (k,g) /\ (k = 5 \/ (1 <= k /\ k <= 4) /\ f.length = g.length)
theorem Alike.may {a b : Int} (h : Alike O a b) (hne : a ≠ b) : May O a b:=by
 rcases alike_bis a b h with (h | ⟨f,h1,h2,h3⟩) | ⟨k,f,g,h1,h2,h3,h4,h5⟩
 ·exact absurd h hne
 ·exact ⟨5,f,f,h1,h2,.inl rfl⟩
 ·exact ⟨k,f,g,h1,h2,.inr ⟨h3,h4⟩⟩
def Done (O : Hp) (root : Int -> Int) (a b : Int) : Prop:=∃ k f g,O a = some (k,f) /\ O b = some (k,g) /\ ((k = 5 /\ f = g /\ bigB f = true) \/ ((1 <= k /\ k <= 4) /\ f.length = g.length /\ ∀ j,j < f.length -> root (f.getD j 0) = root (g.getD j 0)))
theorem Done.mono {root root' : Int -> Int} {a b : Int} (h : Done O root a b) (hr : ∀ x y,root x = root y -> root' x = root' y) : Done O root' a b:=by
 obtain ⟨k,f,g,h1,h2,h3⟩:=h
 refine ⟨k,f,g,h1,h2,h3.imp id (fun h=>⟨h.1,h.2.1,fun j hj=>hr _ _ (h.2.2 j hj)⟩)⟩
structure UF (O : Hp) (root : Int -> Int) (G : List (Int × Int)) : Prop where
 gen : ∀ S : Int -> Int -> Prop,(∀ x,S x x) -> (∀ x y,S x y -> S y x) -> (∀ x y z,S x y -> S y z -> S x z) -> (∀ p∈G,S p.1 p.2) -> ∀ x y,root x = root y -> S x y
 rel : ∀ p∈G,root p.1 = root p.2
 idem : ∀ x,root (root x) = root x
 obj : ∀ x,O x ≠ none -> O (root x) ≠ none
theorem UF.start (O : Hp) : UF O id []:=⟨fun S h1 _ _ _ x y e=>(by have : x = y:=e;subst this;exact h1 x),fun p hp=>(by cases hp),fun _=>rfl,fun x h=>h⟩
def joined (root : Int -> Int) (ra rb : Int) : Int -> Int:=fun x=>if root x = rb then ra else root x
theorem UF.join {root : Int -> Int} {G : List (Int × Int)} (h : UF O root G) {a b : Int} (ha : O a ≠ none) (hb : O b ≠ none) (hne : root a ≠ root b) : UF O (joined root (root a) (root b)) ((a,b) :: G):=by
 refine ⟨fun S h1 h2 h3 h4 x y e=>?_,fun p hp=>?_,fun x=>?_,fun x hx=>?_⟩
 ·have hG : ∀ x y, root x = root y -> S x y := h.gen S h1 h2 h3 (fun p hp => h4 p (List.mem_cons_of_mem _ hp))
  have hab : S a b:=h4 (a,b) List.mem_cons_self
  unfold joined at e
  split at e
  ·rename_i ex
   split at e
   ·rename_i ey;exact hG x y (ex.trans ey.symm)
   ·exact h3 x b y (hG x b ex) (h3 b a y (h2 a b hab) (hG a y e))
  ·split at e
   ·rename_i ey;exact h3 x a y (hG x a e) (h3 a b y hab (hG b y ey.symm))
   ·exact hG x y e
 ·unfold joined
  rcases List.mem_cons.1 hp with rfl | hp
  ·show (if root a = root b then root a else root a) = (if root b = root b then root a else root b)
   rw [if_neg hne,if_pos rfl]
  ·rw [h.rel p hp]
 ·unfold joined
  by_cases e : root x = root b
  ·rw [if_pos e,h.idem,if_neg hne]
  ·rw [if_neg e,h.idem,if_neg e]
 ·unfold joined
  split
  ·exact h.obj a ha
  ·exact h.obj x hx
theorem joined_mono {root : Int -> Int} {ra rb : Int} (x y : Int) (h : root x = root y) : joined root ra rb x = joined root ra rb y:=by unfold joined;rw [h]
theorem UF.alike {root : Int -> Int} {G : List (Int × Int)} (h : UF O root G) (hd : ∀ p∈G,Done O root p.1 p.2) {a b : Int} (e : root a = root b) : Alike O a b:=by
 have key : ∀ x y,root x = root y -> x = y \/ Done O root x y:=by
  refine h.gen _ (fun x=>.inl rfl) (fun x y hh=>?_) (fun x y z h1 h2=>?_) (fun p hp=>.inr (hd p hp))
  ·rcases hh with rfl | ⟨k, f, g, h1, h2, h3⟩
   ·exact .inl rfl
   ·refine .inr ⟨k, g, f, h2, h1, ?_⟩
    rcases h3 with ⟨e1,e2,e3⟩ | ⟨e1,e2,e3⟩
    ·exact .inl ⟨e1,e2.symm,e2 ▸ e3⟩
    ·exact .inr ⟨e1,e2.symm,fun j hj=>(e3 j (by omega)).symm⟩
  ·rcases h1 with rfl | ⟨k, f, g, a1, a2, a3⟩
   ·exact h2
   rcases h2 with rfl | ⟨k',f',g',b1,b2,b3⟩
   ·exact .inr ⟨k,f,g,a1,a2,a3⟩
   rw [a2] at b1
   injection b1 with b1
   injection b1 with e1 e2
   subst e1 e2
   refine .inr ⟨k,f,g',a1,b2,?_⟩
   rcases a3 with ⟨c1,c2,c3⟩ | ⟨c1,c2,c3⟩
   ·rcases b3 with ⟨d1, d2, d3⟩ | ⟨d1, d2, d3⟩
    ·exact .inl ⟨c1,c2.trans d2,c3⟩
    ·omega
   ·rcases b3 with ⟨d1, d2, d3⟩ | ⟨d1, d2, d3⟩
    ·omega
    ·exact .inr ⟨c1,c2.trans d2,fun j hj=>(c3 j hj).trans (d3 j (by omega))⟩
 refine ⟨fun x y=>root x = root y,fun x y hxy=>?_,e⟩
 rcases key x y hxy with rfl | ⟨k,f,g,h1,h2,h3⟩
 ·exact .inl (.inl rfl)
 rcases h3 with ⟨e1,e2,e3⟩ | ⟨e1,e2,e3⟩
 ·subst e1 e2
  exact .inl (.inr ⟨f,h1,h2,e3⟩)
 ·exact .inr ⟨k,f,g,h1,h2,e1,e2,e3⟩
def leads (P : List Int) (root : Int -> Int) : Nat:=(P.filter (fun p=>decide (root p = p))).length
theorem filter_less {p q : Int -> Bool} : ∀ {l : List Int},(∀ x∈l,q x = true -> p x = true) -> (∃ x∈l,p x = true /\ q x = false) -> (l.filter q).length < (l.filter p).length
 | [],_,h=>by obtain ⟨x,hx,_⟩:=h;cases hx
 | a :: l, h1, h2 => by
  have hle : (l.filter q).length <= (l.filter p).length:=by
   clear h2
   have h1' : ∀ x∈l,q x = true -> p x = true:=fun x hx=>h1 x (List.mem_cons_of_mem _ hx)
   clear h1
   induction l with
   | nil=>simp
   | cons b l ih =>
    have:=ih (fun x hx=>h1' x (List.mem_cons_of_mem _ hx))
    have hb:=h1' b List.mem_cons_self
    cases hq : q b
    ·rw [List.filter_cons_of_neg (by simp [hq])]
     cases hp : p b
     ·rw [List.filter_cons_of_neg (by simp [hp])];exact this
     ·rw [List.filter_cons_of_pos hp,List.length_cons];omega
    ·rw [List.filter_cons_of_pos hq,List.filter_cons_of_pos (hb hq),List.length_cons,List.length_cons];omega
  have ha:=h1 a List.mem_cons_self
  cases hq : q a
  ·rw [List.filter_cons_of_neg (by simp [hq])]
   cases hp : p a
   ·rw [List.filter_cons_of_neg (by simp [hp])]
    obtain ⟨x,hx,e1,e2⟩:=h2
    rcases List.mem_cons.1 hx with rfl | hx
    ·rw [hp] at e1;cases e1
    ·exact filter_less (fun x hx=>h1 x (List.mem_cons_of_mem _ hx)) ⟨x,hx,e1,e2⟩
   ·rw [List.filter_cons_of_pos hp,List.length_cons];omega
  ·rw [List.filter_cons_of_pos hq, List.filter_cons_of_pos (ha hq), List.length_cons, List.length_cons]
   obtain ⟨x,hx,e1,e2⟩:=h2
   rcases List.mem_cons.1 hx with rfl | hx
   ·rw [hq] at e2;cases e2
   ·have := filter_less (fun x hx => h1 x (List.mem_cons_of_mem _ hx)) ⟨x, hx, e1, e2⟩
    omega
theorem UF.less {root : Int -> Int} {G : List (Int × Int)} (h : UF O root G) {P : List Int} {a b : Int} (hP : root b∈P) (hne : root a ≠ root b) : leads P (joined root (root a) (root b)) < leads P root:=by
 unfold leads
 refine filter_less (fun x hx e=>?_) ⟨root b,hP,decide_eq_true (h.idem b),decide_eq_false (fun e=>?_)⟩
 ·have e := of_decide_eq_true e
  refine decide_eq_true ?_
  unfold joined at e
  split at e
  ·rename_i ex
   exfalso
   have : root a = root b:=by rw [<- h.idem a,e,ex]
   exact hne this
  ·exact e
 ·unfold joined at e
  rw [if_pos (h.idem b)] at e
  exact hne e
structure FO (O : Hp) (L : Int -> Option Int) (root : Int -> Int) (d : Int -> Nat) : Prop where
 no : ∀ x,L x = none -> root x = x
 yes : ∀ x n,L x = some n -> root n = root x /\ d n < d x
theorem FO.top {L : Int -> Option Int} {root : Int -> Int} {d : Int -> Nat} (h : FO O L root d) (x : Int) : L (root x) = none:=by
 induction hk : d x using Nat.strongRecOn generalizing x with
 | _ k ih =>
  cases e : L x with
  | none=>rw [h.no x e];exact e
  | some n =>
   obtain ⟨h1,h2⟩:=h.yes x n e
   rw [<- h1]
   exact ih (d n) (by omega) n rfl
def upd (L : Int -> Option Int) (x n : Int) : Int -> Option Int:=fun y=>if y = x then some n else L y
theorem FO.half {L : Int -> Option Int} {root : Int -> Int} {d : Int -> Nat} (h : FO O L root d) {x n f : Int} (hn : L x = some n) (hf : L n = some f) : FO O (upd L x f) root d:=by
 refine ⟨fun y e=>?_,fun y m e=>?_⟩
 ·unfold upd at e
  split at e
  ·cases e
  ·exact h.no y e
 ·unfold upd at e
  split at e
  ·rename_i ey
   subst ey
   injection e with e
   subst e
   have h1:=h.yes y n hn
   have h2:=h.yes n f hf
   exact ⟨h2.1.trans h1.1,by omega⟩
  ·exact h.yes y m e
theorem FO.join {L : Int -> Option Int} {root : Int -> Int} {d : Int -> Nat} (h : FO O L root d) {ra rb : Int} (ha : L ra = none) (hb : L rb = none) (hne : ra ≠ rb) : FO O (upd L rb ra) (joined root ra rb) (fun x=>if root x = rb then d x + d ra + 1 else d x):=by
 have ea:=h.no ra ha
 have eb:=h.no rb hb
 refine ⟨fun y e=>?_,fun y m e=>?_⟩
 ·unfold upd at e
  split at e
  ·cases e
  ·rename_i hy
   unfold joined
   rw [h.no y e,if_neg hy]
 ·unfold upd at e
  unfold joined
  split at e
  ·rename_i ey
   subst ey
   injection e with e
   subst e
   rw [ea,eb,if_neg hne,if_pos rfl,if_neg hne,if_pos rfl]
   exact ⟨rfl,by omega⟩
  ·obtain ⟨h1, h2⟩ := h.yes y m e
   rw [h1]
   refine ⟨rfl,?_⟩
   by_cases e2 : root y = rb
   ·rw [if_pos e2,if_pos e2];omega
   ·rw [if_neg e2,if_neg e2];exact h2
end
end Go.Proofs.YticimejfjjmikaaGreatDoor
