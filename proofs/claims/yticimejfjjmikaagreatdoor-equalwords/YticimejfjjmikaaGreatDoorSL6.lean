import Derived.Test.YticimejfjjmikaaGreatDoorSL3
import Derived.Test.YticimejfjjmikaaGreatDoorST8
import Derived.Test.YticimejfjjmikaaGreatDoorSG6
import Derived.Test.YticimejfjjmikaaGreatDoorG9
import Derived.Lib.OthersKept
import Derived.Shelf.Strings.FieldsFuncAny
set_option linter.unusedVariables false
set_option linter.unusedSimpArgs false
set_option maxRecDepth 100000
namespace Go.Proofs.YticimejfjjmikaaGreatDoor
open Go.RowKit
set_option maxHeartbeats 4000000 in
theorem pbig_any (neg : Bool) (ao : Option Addr) (n cap : Nat) (l : List Nat) (w : World) (R : Row .u32 B32 w ao n cap l) (hn : n <= 1000) :
  Calls Tryz.prog 198 #[.agg #[.bool neg,.slice ao n cap]] w fun e w'=>∃ v,e = .returned v /\ w'.ownsRow w.heap.size 44 1 v (n + 1) (uz (bigL neg l)) /\ Below w.heap.size w w':=by
 have HR:=hid R
 have hln:=R.len
 have hf:=R.fits
 have hm:=R.most
 unfold maxLen at hm
 have b0:=Ba w (.cells #[.bool neg,.slice ao n cap] 104)
 have HB0:=hid b0
 have hx:=blk_new w #[.bool neg,.slice ao n cap] 104
 have HX:=hid hx
 have HC : Hid (∀ W,Below (w.alloc (.cells #[.bool neg,.slice ao n cap] 104)).heap.size (w.alloc (.cells #[.bool neg,.slice ao n cap] 104)) W -> W.cell? ⟨w.heap.size,0,none⟩ = some (.bool neg) /\ W.cell? ⟨w.heap.size,1,none⟩ = some (.slice ao n cap) /\ Below w.heap.size w W):=fun W b=>by
  have e:=(b.block w.heap.size (by rw [size_alloc];omega)).trans HX.out
  exact ⟨blk_cell e 0,blk_cell e 1,Bt HB0.out b⟩
 have CW : Hid (∀ x : Nat,x < 4294967296 -> ∀ W,Calls Tryz.prog 201 #[.int .i64 (x : Nat)] W fun e w'=>e = .returned (.int .u64 (wordR 1 (x : Nat) 0)) /\ w' = W):=fun x hx W=>pnumber_any x (by unfold Z64;omega) W
 have CW0 : Hid (∀ W,Calls Tryz.prog 201 #[.int .i64 0] W fun e w'=>e = .returned (.int .u64 (wordR 1 0 0)) /\ w' = W):=fun W=>pnumber_any 0 (by unfold Z64;omega) W
 have CW1 : Hid (∀ W,Calls Tryz.prog 201 #[.int .i64 1] W fun e w'=>e = .returned (.int .u64 (wordR 1 1 0)) /\ w' = W):=fun W=>pnumber_any 1 (by unfold Z64;omega) W
 obtain ⟨z0,hz0⟩ : ∃ z,z = wordR 1 0 0:=⟨_,rfl⟩
 obtain ⟨z1,hz1⟩ : ∃ z,z = wordR 1 1 0:=⟨_,rfl⟩
 rw [<- hz0] at CW0
 rw [<- hz1] at CW1
 obtain ⟨zs,hzs⟩ : ∃ z,z = if neg then z1 else z0:=⟨_,rfl⟩
 have HBG : Hid (bigL neg [] = [zs]):=by
  unfold Hid bigL
  rw [hzs]
  cases neg
  ·simp [hz0]
  ·simp [hz1]
 obtain ⟨W0,hW0⟩ : ∃ W,W = w.alloc (.cells #[.bool neg,.slice ao n cap] 104):=⟨_,rfl⟩
 have HW0:=hid hW0
 have HX0:=hid (HX.out)
 rw [<- hW0] at HC
 have c0:=(HC.out W0 (Below.refl _ _)).1
 have c1:=(HC.out (W0.alloc (.cells #[.int .u64 zs] 44)) (Ba W0 _)).2.1
 have HBSTART : Hid (Below W0.heap.size W0 (W0.alloc (.cells #[.int .u64 zs] 44))):=Ba W0 _
 have HSTART : Hid ((W0.alloc (.cells #[.int .u64 zs] 44)).ownsRow W0.heap.size 44 1 (.slice (some ⟨W0.heap.size,0,none⟩) 1 1) (0 + 1) (uz (bigL neg (l.take 0)))):=by
  unfold Hid
  rw [List.take_zero,HBG.out]
  exact own_one (Below.refl _ _)
 have fin : Hid (∀ (v : Value) (wr : World) (q : Nat),wr.ownsRow W0.heap.size 44 1 v (q + 1) (uz (bigL neg (l.take q))) -> Below W0.heap.size W0 wr -> q = n -> wr.ownsRow w.heap.size 44 1 v (n + 1) (uz (bigL neg l)) /\ Below w.heap.size w wr):=fun v wr q h1 h2 e=>by
  subst e
  rw [List.take_of_length_le (by omega)] at h1
  exact ⟨own_weak h1 (by rw [HW0.out,size_alloc];omega),(HC.out wr h2).2.2⟩
 have HRW : Hid (∀ W,Below W0.heap.size W0 W -> Row .u32 B32 W ao n cap l):=fun W b=>HR.out.below (HC.out W b).2.2
 have HNE : Hid (neg = false -> zs = z0):=fun e=>by rw [hzs,e];rfl
 have HNT : Hid (neg = true -> zs = z1):=fun e=>by rw [hzs,e];rfl
 have eW : Hid (w.alloc (.cells #[.bool neg,.slice ao n cap] 104) = W0):=HW0.out.symm
 clear R b0 hx hz0 hz1 hzs hW0 HW0 HX HX0 HB0
 have go : Calls Tryz.prog 198 #[.agg #[.bool neg, .slice ao n cap]] w fun e w' => ∃ v, e = .returned v /\ w'.ownsRow w.heap.size 44 1 v (n + 1) (uz (bigL neg l)) /\ Below w.heap.size w w' := by
  cases neg
  ·obtain rfl := HNE.out rfl
   go_enter Tryz.func198,Tryz.ntmps198
   go_wp2_with fail
   rw [eW.out]
   go_wp2_with (go_at_call 201;(with_reducible refine (CW0.out W0).mono ?_);rintro e W1 ⟨rfl,hw1⟩;rw [hw1];clear hw1)
   clear c0 c1
   go_loopw [4,6,16] (fun v _ i wr=>∃ q : Nat,q <= n /\ i = .int .i64 q /\ Hid (wr.ownsRow W0.heap.size 44 1 v (q + 1) (uz (bigL false (l.take q))) /\ Below W0.heap.size W0 wr)) (fun _ _ i _=>n - (intOf i).toNat)
   case atStart=>exact ⟨0,Nat.zero_le _,rfl,HSTART.out,HBSTART.out⟩
   case round =>
    obtain ⟨q,hq,rfl,hI⟩:=hrel
    obtain ⟨_,d1,_⟩:=HC.out wr hI.out.2
    have HOQ:=hid hI.out.1
    have HBQ:=hid hI.out.2
    clear hI
    by_cases hlt : q < n
    ·obtain ⟨b, o, rfl, hlb, hcc⟩ := (HRW.out wr HBQ.out).rd.some (by omega)
     have hck:=hcc q (by omega)
     have hxb : l.getD q 0 < B32:=by rw [List.getD_eq_getElem?_getD,List.getElem?_eq_getElem (by omega)];exact HR.out.dg _ (List.getElem_mem _)
     have C1:=hid (CW.out (l.getD q 0) hxb wr)
     have HT:=hid (bigL_take false (l:=l) (q:=q) (by omega))
     obtain ⟨x,hx⟩ : ∃ x,x = l.getD q 0:=⟨_,rfl⟩
     rw [<- hx] at hck C1 HT hxb
     have hxb' : x < 4294967296:=hxb
     obtain ⟨zx,hzx⟩ : ∃ z,z = wordR 1 ((x : Nat) : Int) 0:=⟨_,rfl⟩
     have hzu : Hid (U64 zx):=by unfold Hid;rw [hzx];exact wordR_rng _ _ _
     rw [<- hzx] at C1 HT
     have HO1:=hid (uown_on HOQ.out (Ba wr (.cells #[.int .u64 zx] 44)))
     have HU1:=hid (urow_one (blk_new wr #[.int .u64 zx] 44) hzu.out)
     have HBA:=hid (HBQ.out.trans ((Ba wr (.cells #[.int .u64 zx] 44)).mono HBQ.out.size))
     have HSA:=hid HBA.out.size
     clear hcc hx hzx hxb
     go_wp2_with (first
      | (go_at_call 201;(with_reducible refine C1.out.mono ?_);rintro e W1 ⟨rfl,hw1⟩;rw [hw1];clear hw1)
      | (at_builtin;refine appU rfl _ _ 23 rfl W0.heap.size 44 Tryz.underlying23 info_word _ (q + 1) (bigL false (l.take q)) rfl HO1.out (some ⟨wr.heap.size,0,none⟩) 1 1 [zx] rfl HU1.out (by omega) HSA.out ?_;intro v2 w2 ho2 hg2))
     have HE : Hid (Below W0.heap.size W0 w2):=HBA.out.grown hg2 HSA.out (fun b hb=>(HO1.out.lt b hb).1)
     refine ⟨⟨q + 1,by omega,by go_num,?_,HE.out⟩,by simp [intOf] <;> omega⟩
     rw [HT.out];exact ho2
    ·obtain rfl : q = n := by omega
     go_wp2_with fail
     go_ret
     obtain ⟨f1,f2⟩:=fin.out _ _ _ HOQ.out HBQ.out rfl
     exact ⟨_,rfl,f1,f2⟩
  ·obtain rfl := HNT.out rfl
   go_enter Tryz.func198,Tryz.ntmps198
   go_wp2_with fail
   rw [eW.out]
   go_wp2_with (first
    | (go_at_call 201;(with_reducible refine (CW0.out W0).mono ?_);rintro e W1 ⟨rfl,hw1⟩;rw [hw1];clear hw1)
    | (go_at_call 201;(with_reducible refine (CW1.out W0).mono ?_);rintro e W1 ⟨rfl,hw1⟩;rw [hw1];clear hw1))
   clear c0 c1
   go_loopw [4,6,16] (fun v _ i wr=>∃ q : Nat,q <= n /\ i = .int .i64 q /\ Hid (wr.ownsRow W0.heap.size 44 1 v (q + 1) (uz (bigL true (l.take q))) /\ Below W0.heap.size W0 wr)) (fun _ _ i _=>n - (intOf i).toNat)
   case atStart=>exact ⟨0,Nat.zero_le _,rfl,HSTART.out,HBSTART.out⟩
   case round =>
    obtain ⟨q,hq,rfl,hI⟩:=hrel
    obtain ⟨_,d1,_⟩:=HC.out wr hI.out.2
    have HOQ:=hid hI.out.1
    have HBQ:=hid hI.out.2
    clear hI
    by_cases hlt : q < n
    ·obtain ⟨b, o, rfl, hlb, hcc⟩ := (HRW.out wr HBQ.out).rd.some (by omega)
     have hck:=hcc q (by omega)
     have hxb : l.getD q 0 < B32:=by rw [List.getD_eq_getElem?_getD,List.getElem?_eq_getElem (by omega)];exact HR.out.dg _ (List.getElem_mem _)
     have C1:=hid (CW.out (l.getD q 0) hxb wr)
     have HT:=hid (bigL_take true (l:=l) (q:=q) (by omega))
     obtain ⟨x,hx⟩ : ∃ x,x = l.getD q 0:=⟨_,rfl⟩
     rw [<- hx] at hck C1 HT hxb
     have hxb' : x < 4294967296:=hxb
     obtain ⟨zx,hzx⟩ : ∃ z,z = wordR 1 ((x : Nat) : Int) 0:=⟨_,rfl⟩
     have hzu : Hid (U64 zx):=by unfold Hid;rw [hzx];exact wordR_rng _ _ _
     rw [<- hzx] at C1 HT
     have HO1:=hid (uown_on HOQ.out (Ba wr (.cells #[.int .u64 zx] 44)))
     have HU1:=hid (urow_one (blk_new wr #[.int .u64 zx] 44) hzu.out)
     have HBA:=hid (HBQ.out.trans ((Ba wr (.cells #[.int .u64 zx] 44)).mono HBQ.out.size))
     have HSA:=hid HBA.out.size
     clear hcc hx hzx hxb
     go_wp2_with (first
      | (go_at_call 201;(with_reducible refine C1.out.mono ?_);rintro e W1 ⟨rfl,hw1⟩;rw [hw1];clear hw1)
      | (at_builtin;refine appU rfl _ _ 23 rfl W0.heap.size 44 Tryz.underlying23 info_word _ (q + 1) (bigL true (l.take q)) rfl HO1.out (some ⟨wr.heap.size,0,none⟩) 1 1 [zx] rfl HU1.out (by omega) HSA.out ?_;intro v2 w2 ho2 hg2))
     have HE : Hid (Below W0.heap.size W0 w2):=HBA.out.grown hg2 HSA.out (fun b hb=>(HO1.out.lt b hb).1)
     refine ⟨⟨q + 1,by omega,by go_num,?_,HE.out⟩,by simp [intOf] <;> omega⟩
     rw [HT.out];exact ho2
    ·obtain rfl : q = n := by omega
     go_wp2_with fail
     go_ret
     obtain ⟨f1,f2⟩:=fin.out _ _ _ HOQ.out HBQ.out rfl
     exact ⟨_,rfl,f1,f2⟩
 exact go
set_option maxHeartbeats 4000000 in
theorem pbytes_any (t : ByteArray) (ht : t.size <= 1000000) (w : World) :
  Calls Tryz.prog 179 #[.string t] w fun e w'=>∃ v,e = .returned v /\ w'.ownsRow w.heap.size 44 1 v t.size (uz (bytesL t t.size)) /\ Below w.heap.size w w':=by
 have CW : Hid (∀ x : Nat,x < 256 -> ∀ W,Calls Tryz.prog 201 #[.int .i64 (x : Nat)] W fun e w'=>e = .returned (.int .u64 (wordR 1 (x : Nat) 0)) /\ w' = W):=fun x hx W=>pnumber_any x (by unfold Z64;omega) W
 go_enter Tryz.func179,Tryz.ntmps179
 go_wp2_with fail
 go_loopw [3,4,7] (fun v _ i wr=>∃ q : Nat,q <= t.size /\ i = .int .i64 q /\ Hid (wr.ownsRow w.heap.size 44 1 v q (uz (bytesL t q)) /\ Below w.heap.size w wr)) (fun _ _ i _=>t.size - (intOf i).toNat)
 case atStart=>exact ⟨0,Nat.zero_le _,rfl,World.ownsRow_nil _ _ _ _,Below.refl _ _⟩
 case round =>
  obtain ⟨q,hq,rfl,hI⟩:=hrel
  have HOQ:=hid hI.out.1
  have HBQ:=hid hI.out.2
  clear hI
  by_cases hlt : q < t.size
  ·have hck := byteAt_get hlt
   have hxb:=byteAt_lt t q
   have C1:=hid (CW.out (byteAt t q) hxb wr)
   have HT:=hid (bytesL_succ t q)
   obtain ⟨x,hx⟩ : ∃ x,x = byteAt t q:=⟨_,rfl⟩
   rw [<- hx] at hck C1 HT hxb
   obtain ⟨zx,hzx⟩ : ∃ z,z = wordR 1 ((x : Nat) : Int) 0:=⟨_,rfl⟩
   have hzu : Hid (U64 zx):=by unfold Hid;rw [hzx];exact wordR_rng _ _ _
   rw [<- hzx] at C1 HT
   have HO1:=hid (uown_on HOQ.out (Ba wr (.cells #[.int .u64 zx] 44)))
   have HU1:=hid (urow_one (blk_new wr #[.int .u64 zx] 44) hzu.out)
   have HBA:=hid (HBQ.out.trans ((Ba wr (.cells #[.int .u64 zx] 44)).mono HBQ.out.size))
   have HSA:=hid HBA.out.size
   clear hx hzx
   go_wp2_with (first
    | (go_at_call 201;(with_reducible refine C1.out.mono ?_);rintro e W1 ⟨rfl,hw1⟩;rw [hw1];clear hw1)
    | (at_builtin;refine appU rfl _ _ 23 rfl w.heap.size 44 Tryz.underlying23 info_word _ q (bytesL t q) rfl HO1.out (some ⟨wr.heap.size,0,none⟩) 1 1 [zx] rfl HU1.out (by omega) HSA.out ?_;intro v2 w2 ho2 hg2))
   have HE : Hid (Below w.heap.size w w2):=HBA.out.grown hg2 HSA.out (fun b hb=>(HO1.out.lt b hb).1)
   refine ⟨⟨q + 1,by omega,by go_num,?_,HE.out⟩,by simp [intOf] <;> omega⟩
   rw [HT.out];exact ho2
  ·obtain rfl : q = t.size := by omega
   go_wp2_with fail
   go_ret
   exact ⟨_,rfl,HOQ.out,HBQ.out⟩
theorem count_ltrs {t : ByteArray} (hv : Lib.validD t.data.toList = true) : Lib.runeCount t = (ltrs t).length:=by
 obtain ⟨l,h1,h2,h3⟩:=told_spelt (s:=t) (f:=t.size) (p:=0) (by rw [List.drop_zero];exact hv) (by omega)
 rw [List.drop_zero] at h3
 rw [spelt_count h2 h3]
 unfold ltrs
 rw [h1,List.length_map]
theorem next_ltr {s : ByteArray} {p f : Nat} (hv : Lib.validD (s.data.toList.drop p) = true) (hp : p < s.size) :
  ltF s (f + 1) p = ((Utf8.decode s p).1 : Int) :: ltF s f (p + (Utf8.decode s p).2) /\ Lib.validD (s.data.toList.drop (p + (Utf8.decode s p).2)) = true /\ letB ((Utf8.decode s p).1 : Int) = true /\ 1 <= (Utf8.decode s p).2 /\ (Utf8.decode s p).2 <= 4:=by
 have h2 : s.data.toList.length = s.size:=rfl
 have hne : s.data.toList.drop p ≠ []:=by
  intro e;have:=congrArg List.length e;rw [List.length_drop] at this;simp only [List.length_nil] at this;omega
 have hv0:=hv
 rw [Lib.validD_step _ hne,Lib.decodeL_drop] at hv
 by_cases hb : (Utf8.decode s p).1 = 65533 /\ (Utf8.decode s p).2 = 1
 ·rw [if_pos hb] at hv;cases hv
 ·rw [if_neg hb] at hv
  have hne2 : ¬ Utf8.decode s p = (65533,1):=fun e=>hb (by rw [e];exact ⟨rfl,rfl⟩)
  have er : runeD s p = Utf8.decode s p:=by unfold runeD;rw [if_neg hne2]
  have hw:=decode_le s p
  rw [List.drop_drop] at hv
  refine ⟨?_,hv,?_,hw.1,hw.2⟩
  ·show (if p < s.size then ((runeD s p).1 : Int) :: ltF s f (p + max 1 (runeD s p).2) else []) = _
   rw [if_pos hp,er,show max 1 (Utf8.decode s p).2 = (Utf8.decode s p).2 by omega]
  ·have hd : Utf8.decode s p = Lib.decodeL (s.data.toList.drop p) := (Lib.decodeL_drop s p).symm
   have:=Lib.decodeN_valid (s.data.toList.drop p).length ((s.data.toList.drop p).getD 0 0).toNat ((s.data.toList.drop p).getD 1 0).toNat ((s.data.toList.drop p).getD 2 0).toNat ((s.data.toList.drop p).getD 3 0).toNat (UInt8.toNat_lt _)
   rw [<- Lib.decodeL_N,<- hd] at this
   unfold letB
   simp only [Bool.and_eq_true,Bool.or_eq_true,decide_eq_true_eq]
   omega
def ltW (c : Int) : Int:=wordR 4 c 0
set_option maxHeartbeats 4000000 in
theorem pletters_any (t : ByteArray) (ht : t.size <= 1000000) (hv : Lib.validD t.data.toList = true) (w : World) :
  Calls Tryz.prog 178 #[.string t] w fun e w'=>∃ v,e = .returned v /\ w'.ownsRow w.heap.size 44 1 v (ltrs t).length (uz ((ltrs t).map ltW)) /\ Below w.heap.size w w':=by
 have CW : Hid (∀ x : Nat,letB (x : Int) = true -> ∀ W,Calls Tryz.prog 176 #[.int .i64 (x : Nat)] W fun e w'=>e = .returned (.tuple #[.int .u64 (ltW (x : Nat)),.bool true]) /\ w' = W):=fun x hx W=>by
  have hr:=ltrB_rng (n:=(x : Int)) hx
  have e : rightB 4 (x : Int) 0 = true:=by
   unfold rightB
   rw [if_neg (by decide),if_neg (by decide),if_neg (by decide),if_pos rfl,decide_eq_true (by omega),decide_eq_true (by omega)]
   exact hx
  have:=char_any (x : Int) (by unfold Z64;omega) W
  rw [e] at this
  exact this
 have HI0 : Hid ((w.iter t 0).heap[w.heap.size]? = some (.stringIter t 0)):=World.iter_heap w t 0
 have HB0 : Hid (Below w.heap.size w (w.iter t 0)):=Ba w (.stringIter t 0)
 have HV : Hid (Lib.validD (t.data.toList.drop 0) = true):=by unfold Hid;rw [List.drop_zero];exact hv
 clear hv
 go_enter Tryz.func178,Tryz.ntmps178
 go_wp2_with fail
 go_loopw [3,5,6,7] (fun v _ _ _ wr=>Hid (∃ (p f : Nat) (ls : List Int),wr.heap[w.heap.size]? = some (.stringIter t p) /\ wr.ownsRow w.heap.size 44 1 v ls.length (uz (ls.map ltW)) /\ Below w.heap.size w wr /\ ltrs t = ls ++ ltF t f p /\ t.size <= p + f /\ ls.length <= p /\ p <= t.size + 4 /\ Lib.validD (t.data.toList.drop p) = true)) (fun _ _ _ _ wr=>t.size + 5 - wr.iterPos w.heap.size)
 case atStart=>exact ⟨0,t.size,[],HI0.out,World.ownsRow_nil _ _ _ _,HB0.out,rfl,by omega,by simp,by omega,HV.out⟩
 case round =>
  obtain ⟨p,f,ls,hit,ho,hb,hl,hf,hlp,hp4,hv⟩:=hrel.out
  have hpos : wr.iterPos w.heap.size = p:=by unfold World.iterPos;rw [hit]
  have HIT:=hid hit
  have HO:=hid ho
  have HB:=hid hb
  have HL:=hid hl
  have HPO:=hid hpos
  clear hrel ho hb hl hpos
  by_cases hlt : p < t.size
  ·obtain ⟨g, hg⟩ : ∃ g, f = g + 1 := ⟨f - 1, by omega⟩
   obtain ⟨n1,n2,n3,n4,n5⟩:=next_ltr (f:=g) hv hlt
   have hnx:=fun ty=>Lib.run_next_any_at (P:=Tryz.prog) wr w.heap.size t p ty hit hlt
   have HIT2:=hid (Lib.iterAt_heap wr w.heap.size t p (p + (Utf8.decode t p).2) hit)
   have HOI:=hid (own_iterAt HO.out hit (p + (Utf8.decode t p).2))
   have HBI:=hid (Lib.below_iterAt HB.out (Nat.le_refl _) t (p + (Utf8.decode t p).2))
   have C1:=hid (CW.out (Utf8.decode t p).1 n3)
   have hr:=ltrB_rng (n:=((Utf8.decode t p).1 : Int)) n3
   obtain ⟨⟨c,k⟩,hck⟩ : ∃ x,x = Utf8.decode t p:=⟨_,rfl⟩
   rw [<- hck] at hnx HIT2 HOI HBI C1 n1 n2 n4 n5 hr
   simp only at hnx HIT2 HOI HBI C1 n1 n2 n4 n5 hr
   obtain ⟨WI,hWI⟩ : ∃ W,W = wr.iterAt w.heap.size t (p + k):=⟨_,rfl⟩
   rw [<- hWI] at hnx HIT2 HOI HBI
   have HN1:=hid n1
   have HN2:=hid n2
   have HSI : Hid (WI.heap.size = wr.heap.size):=by unfold Hid;rw [hWI];exact Lib.iterAt_size _ _ _ _
   obtain ⟨z,hz⟩ : ∃ z,z = ltW ((c : Nat) : Int):=⟨_,rfl⟩
   have HZ:=hid hz
   have hzu : Hid (U64 z):=by unfold Hid;rw [hz];exact wordR_rng _ _ _
   rw [<- hz] at C1
   have HO1:=hid (uown_on HOI.out (Ba WI (.cells #[.int .u64 z] 44)))
   have HU1:=hid (urow_one (blk_new WI #[.int .u64 z] 44) hzu.out)
   have HBA:=hid (HBI.out.trans ((Ba WI (.cells #[.int .u64 z] 44)).mono HBI.out.size))
   have HSA:=hid HBA.out.size
   have HIT3:=hid (((Ba WI (.cells #[.int .u64 z] 44)).block w.heap.size (Array.getElem?_eq_some_iff.1 HIT2.out).1).trans HIT2.out)
   have HNE:=hid (own_ne_iter HO1.out HIT3.out)
   obtain ⟨n,hn⟩ : ∃ n,n = ls.length:=⟨_,rfl⟩
   rw [<- hn] at HO1 hlp
   have HN:=hid hn
   clear hit hv n1 n2 n3 hck hWI hz hn
   go_wp2_with (first
    | (go_at_call 176;(with_reducible refine (C1.out WI).mono ?_);rintro e W1 ⟨rfl,hw1⟩;rw [hw1];clear hw1)
    | (at_builtin;refine appU rfl _ _ 23 rfl w.heap.size 44 Tryz.underlying23 info_word _ n (ls.map ltW) rfl HO1.out (some ⟨WI.heap.size,0,none⟩) 1 1 [z] rfl HU1.out (by omega) HSA.out ?_;intro v2 w2 ho2 hg2))
   have HE : Hid (Below w.heap.size w w2):=HBA.out.grown hg2 HSA.out (fun b hb=>(HO1.out.lt b hb).1)
   have hit2 : w2.heap[w.heap.size]? = some (.stringIter t (p + k)):=(hg2.block w.heap.size (by rw [size_alloc];have:=(Array.getElem?_eq_some_iff.1 HIT2.out).1;omega) HNE.out).trans HIT3.out
   refine ⟨⟨p + k,g,ls ++ [(c : Int)],hit2,?_,HE.out,?_,by omega,by rw [List.length_append,<- HN.out];simp;omega,by omega,HN2.out⟩,?_⟩
   ·rw [List.length_append, <- HN.out, List.map_append]
    show w2.ownsRow w.heap.size 44 1 v2 (n + 1) (uz (ls.map ltW ++ [ltW (c : Int)]))
    rw [<- HZ.out];exact ho2
   ·rw [HL.out,hg,HN1.out,List.append_assoc];rfl
   ·have e2 : w2.iterPos w.heap.size = p + k := by unfold World.iterPos; rw [hit2]
    rw [e2,HPO.out];omega
  ·have hnx := fun ty => Lib.run_next_end_at (P := Tryz.prog) wr w.heap.size t p ty hit hlt
   clear hit hv
   go_wp2_with fail
   go_ret
   have he : ltF t f p = []:=by
    cases f with
    | zero=>rfl
    | succ f=>rw [ltF,if_neg hlt]
   have hl:=HL.out
   rw [he,List.append_nil] at hl
   rw [hl]
   exact ⟨_,rfl,HO.out,HB.out⟩
structure LNd (d : Nd) : Prop where
 c : CNd d
 sz : 0 <= sizeN d
 tv : d.kind = 5 -> Lib.validD d.text.data.toList = true
theorem LNd.of {n : Nat} {d : Nd} (h : nodeB n d = true) (hc : CNd d) (hz : 0 <= sizeN d) : LNd d:=by
 refine ⟨hc,hz,fun e=>?_⟩
 obtain ⟨_,_,_,h4,_⟩:=node_parts h
 rw [e,textB_5,Bool.and_eq_true] at h4
 exact h4.1
theorem size_neg {d : Nd} (h : CNd d) : sizeN d < 0 ↔ 11 < d.kind:=by
 have:=h.kind
 unfold sizeN
 constructor
 ·intro hn
  split at hn
  ·omega
  split at hn
  ·split at hn <;> omega
  split at hn
  ·omega
  split at hn
  ·omega
  split at hn <;> omega
 ·intro hk
  rw [if_neg (by omega),if_neg (by omega),if_neg (by omega),if_neg (by omega),if_neg (by omega)]
  omega
set_option maxHeartbeats 4000000 in
theorem plen_any (d : Nd) (ka : Option Addr) (kc : Nat) (w : World) (hd : LNd d) (hkk : d.kids.length <= kc) (hkc : kc <= 9223372036854775807) :
  Calls Tryz.prog 142 #[NdVal d ka kc] w fun e w'=>e = .returned (.int .i64 (sizeN d)) /\ Below w.heap.size w w':=by
 have HB:=hid (Ba w (.cells #[.int .i64 d.kind,.int .i64 d.num,.string d.text,.slice ka d.kids.length kc] 54))
 have hx:=blk_new w #[.int .i64 d.kind,.int .i64 d.num,.string d.text,.slice ka d.kids.length kc] 54
 have HSZ : Hid (sizeN d = if d.kind = 1 \/ d.kind = 2 \/ d.kind = 4 \/ d.kind = 6 \/ d.kind = 10 \/ d.kind = 11 then (0 : Int)
  else if d.kind = 3 then (if fixB (txZ d.text) = true then 0 else 2 + (((mg (txZ d.text).natAbs).length : Nat) : Int))
  else if d.kind = 5 then 1 + (((ltrs d.text).length : Nat) : Int)
  else if d.kind = 7 \/ d.kind = 8 then 1 + ((d.kids.length : Nat) : Int)
  else if d.kind = 9 then 1 + ((d.text.size : Nat) : Int) else (-1 : Int)):=rfl
 have HP:=hid hd.c.int_
 have HV:=hid hd.tv
 have hge:=hd.sz
 have hkd:=hd.c.kind
 have htx:=hd.c.text
 have hks:=hd.c.kids
 unfold NdVal
 clear hd
 obtain ⟨dk,dn,dt,dl⟩:=d
 simp only at HB HSZ HP HV htx hkk hks hkd hx ⊢
 have c0 : (w.alloc (.cells #[.int .i64 dk,.int .i64 dn,.string dt,.slice ka dl.length kc] 54)).cell? ⟨w.heap.size,0,none⟩ = some (.int .i64 dk):=blk_cell hx 0
 have c2 : (w.alloc (.cells #[.int .i64 dk,.int .i64 dn,.string dt,.slice ka dl.length kc] 54)).cell? ⟨w.heap.size,2,none⟩ = some (.string dt):=blk_cell hx 2
 have c3 : (w.alloc (.cells #[.int .i64 dk,.int .i64 dn,.string dt,.slice ka dl.length kc] 54)).cell? ⟨w.heap.size,3,none⟩ = some (.slice ka dl.length kc):=blk_cell hx 3
 obtain ⟨kn,hkn⟩ : ∃ n,n = dl.length:=⟨_,rfl⟩
 rw [<- hkn] at HB HSZ c0 c2 c3 hkk hks ⊢
 clear hx hkn
 by_cases k3 : dk = 3
 ·subst k3
  rw [if_neg (by omega),if_pos rfl] at HSZ
  have C:=hid (plen_int dt (by omega) (HP.out rfl) (w.alloc (.cells #[.int .i64 3,.int .i64 dn,.string dt,.slice ka kn kc] 54)))
  rw [<- HSZ.out] at C
  obtain ⟨z,hz⟩ : ∃ z,z = sizeN ⟨3,dn,dt,dl⟩:=⟨_,rfl⟩
  rw [<- hz] at C ⊢
  clear hz hge HSZ
  go_enter Tryz.func142,Tryz.ntmps142
  go_wp2_with (go_at_call 172;(with_reducible refine C.out.mono ?_);rintro e W1 ⟨rfl,b1⟩;have HB1:=hid (Bt HB.out b1);clear b1)
  go_ret
  exact ⟨rfl,HB1.out⟩
 by_cases k5 : dk = 5
 ·subst k5
  rw [if_neg (by omega),if_neg (by omega),if_pos rfl] at HSZ
  have C:=hid (count_any dt (w.alloc (.cells #[.int .i64 5,.int .i64 dn,.string dt,.slice ka kn kc] 54)) (by omega))
  rw [count_ltrs (HV.out rfl)] at C
  have hll:=ltrs_len dt
  obtain ⟨n,hn⟩ : ∃ n,n = (ltrs dt).length:=⟨_,rfl⟩
  rw [<- hn] at C HSZ hll
  clear hn hge
  go_enter Tryz.func142,Tryz.ntmps142
  go_wp2_with (go_at_call 173;(with_reducible refine C.out.mono ?_);rintro e W1 ⟨rfl,b1⟩;have HB1:=hid (Bt HB.out b1);clear b1)
  go_ret
  rw [HSZ.out]
  exact ⟨rfl,HB1.out⟩
 by_cases k9 : dk = 9
 ·subst k9
  rw [if_neg (by omega),if_neg (by omega),if_neg (by omega),if_neg (by omega),if_pos rfl] at HSZ
  clear hge
  go_enter Tryz.func142,Tryz.ntmps142
  go_wp2_with fail
  go_ret
  rw [HSZ.out]
  exact ⟨rfl,HB.out⟩
 by_cases k7 : dk = 7
 ·subst k7
  rw [if_neg (by omega),if_neg (by omega),if_neg (by omega),if_pos (by omega)] at HSZ
  clear hge
  go_enter Tryz.func142,Tryz.ntmps142
  go_wp2_with fail
  go_ret
  rw [HSZ.out]
  exact ⟨rfl,HB.out⟩
 by_cases k8 : dk = 8
 ·subst k8
  rw [if_neg (by omega),if_neg (by omega),if_neg (by omega),if_pos (by omega)] at HSZ
  clear hge
  go_enter Tryz.func142,Tryz.ntmps142
  go_wp2_with fail
  go_ret
  rw [HSZ.out]
  exact ⟨rfl,HB.out⟩
 have h0 : Hid (sizeN ⟨dk,dn,dt,dl⟩ = 0):=by
  unfold Hid
  by_cases h1 : dk = 1 \/ dk = 2 \/ dk = 4 \/ dk = 6 \/ dk = 10 \/ dk = 11
  ·exact HSZ.out.trans (if_pos h1)
  ·have := HSZ.out
   rw [if_neg h1,if_neg k3,if_neg k5,if_neg (by omega),if_neg k9] at this
   omega
 have e3 : (dk == 3) = false:=by simpa using k3
 have e5 : (dk == 5) = false:=by simpa using k5
 have e7 : (dk == 7) = false:=by simpa using k7
 have e8 : (dk == 8) = false:=by simpa using k8
 have e9 : (dk == 9) = false:=by simpa using k9
 clear k3 k5 k7 k8 k9 HSZ hge hkd
 go_enter Tryz.func142,Tryz.ntmps142
 go_wp2_with fail
 go_ret
 rw [h0.out]
 exact ⟨rfl,HB.out⟩
set_option maxHeartbeats 4000000 in
theorem pwords_any (an : Option Addr) (nn cn : Nat) (cs : List Nd) (w : World) (R : NRow w an nn cn cs) (hd : ∀ d∈cs,LNd d) (hn : nn <= 2500) :
  Calls Tryz.prog 85 #[.slice an nn cn] w fun e w'=>e = .returned (.int .i64 (sumN cs)) /\ Below w.heap.size w w':=by
 have hl:=R.len
 have hf:=R.fits
 have hm:=R.most
 unfold maxLen at hm
 have HR:=hid R
 have HD:=hid hd
 have HSB:=hid (sumN_bd (fun d h=>(hd d h).c))
 clear R hd
 go_enter Tryz.func85,Tryz.ntmps85
 go_wp2_with fail
 go_loopw [3,5,8] (fun v _ i wr=>∃ q : Nat,q <= nn /\ i = .int .i64 q /\ v = .int .i64 (sumN (cs.take q)) /\ Hid (Below w.heap.size w wr)) (fun _ _ i _=>nn - (intOf i).toNat)
 case atStart=>exact ⟨0,Nat.zero_le _,rfl,rfl,Below.refl _ _⟩
 case round =>
  obtain ⟨q,hq,rfl,rfl,HBQ⟩:=hrel
  have hsb:=HSB.out q
  obtain ⟨s,hs⟩ : ∃ s,s = sumN (cs.take q):=⟨_,rfl⟩
  rw [<- hs] at hsb ⊢
  have HSQ:=hid hs
  clear hs
  by_cases hlt : q < nn
  ·have hql : q < cs.length := by omega
   obtain ⟨b,o,rfl,hlb,hc⟩:=(HR.out.below HBQ.out).some (by omega)
   obtain ⟨k1,k2,k3,ak,nk,ck,k4,k5⟩:=hc q hlt
   have hmm : cs.getD q default∈cs:=by rw [List.getD_eq_getElem?_getD,List.getElem?_eq_getElem hql];exact List.getElem_mem _
   have hd:=HD.out _ hmm
   have hsz:=hd.c.size
   have hlk:=k5.len
   have CS : Hid (∀ W,Calls Tryz.prog 142 #[NdVal (cs.getD q default) ak ck] W fun e w'=>e = .returned (.int .i64 (sizeN (cs.getD q default))) /\ Below W.heap.size W w'):=fun W=>plen_any (cs.getD q default) ak ck W hd (by rw [hlk];exact k5.fits) (by have:=k5.most;unfold maxLen at this;omega)
   have HTK:=hid (sumN_take hql)
   unfold NdVal at CS
   rw [hlk] at CS
   obtain ⟨d,hdd⟩ : ∃ d,d = cs.getD q default:=⟨_,rfl⟩
   rw [<- hdd] at k1 k2 k3 hsz CS HTK
   obtain ⟨z,hz⟩ : ∃ z,z = sizeN d:=⟨_,rfl⟩
   rw [<- hz] at CS HTK hsz
   obtain ⟨dk,dn,dt,dl⟩:=d
   simp only at k1 k2 k3 CS
   have hx:=blk_new wr #[.int .i64 dk,.int .i64 dn,.string dt,.slice ak nk ck] 54
   have b0 : (wr.alloc (.cells #[.int .i64 dk,.int .i64 dn,.string dt,.slice ak nk ck] 54)).cell? ⟨wr.heap.size,0,none⟩ = some (.int .i64 dk):=blk_cell hx 0
   have b1 : (wr.alloc (.cells #[.int .i64 dk,.int .i64 dn,.string dt,.slice ak nk ck] 54)).cell? ⟨wr.heap.size,1,none⟩ = some (.int .i64 dn):=blk_cell hx 1
   have b2 : (wr.alloc (.cells #[.int .i64 dk,.int .i64 dn,.string dt,.slice ak nk ck] 54)).cell? ⟨wr.heap.size,2,none⟩ = some (.string dt):=blk_cell hx 2
   have b3 : (wr.alloc (.cells #[.int .i64 dk,.int .i64 dn,.string dt,.slice ak nk ck] 54)).cell? ⟨wr.heap.size,3,none⟩ = some (.slice ak nk ck):=blk_cell hx 3
   have HBA:=hid (Bt HBQ.out (Ba wr (.cells #[.int .i64 dk,.int .i64 dn,.string dt,.slice ak nk ck] 54)))
   clear hc hmm hd hdd k5 hz hlk hx
   go_wp2_with (go_at_call 142;(with_reducible refine (CS.out _).mono ?_);rintro e W4 ⟨rfl,b4⟩;have HB4:=hid (Bt HBA.out b4);clear b4)
   refine ⟨⟨q + 1,by omega,by go_num,?_,HB4.out⟩,by simp [intOf] <;> omega⟩
   rw [HTK.out,<- HSQ.out]
  ·obtain rfl : q = nn := by omega
   have hsq:=HSQ.out
   rw [List.take_of_length_le (by omega)] at hsq
   have HS2:=hid hsq
   clear hsq
   go_wp2_with fail
   go_ret
   rw [<- HS2.out]
   exact ⟨rfl,HBQ.out⟩
end Go.Proofs.YticimejfjjmikaaGreatDoor
