import Derived.Test.YticimejfjjmikaaGreatDoorW11
import Derived.Deep.LoopGhost
set_option linter.unusedVariables false
set_option linter.unusedSimpArgs false
namespace Go.Proofs.YticimejfjjmikaaGreatDoor
open Go.RowKit
def hv (radix : Nat) (l : List Nat) : Nat:=l.foldl (fun a c=>a * radix + dgt c) 0
theorem hv_snoc (radix : Nat) (l : List Nat) (c : Nat) : hv radix (l ++ [c]) = hv radix l * radix + dgt c:=by simp [hv]
theorem hv_take_succ (radix : Nat) (l : List Nat) (k : Nat) (h : k < l.length) : hv radix (l.take (k + 1)) = hv radix (l.take k) * radix + dgt (l.getD k 0):=by
 rw [take_snoc l k h,hv_snoc]
theorem hv_mono (radix : Nat) (hr : 1 <= radix) (l : List Nat) : ∀ k j,k + j <= l.length -> hv radix (l.take k) <= hv radix (l.take (k + j))
 | k,0,_=>Nat.le_refl _
 | k,j + 1,h=>by
  have ih:=hv_mono radix hr l k j (by omega)
  rw [<- Nat.add_assoc,hv_take_succ radix l (k + j) (by omega)]
  have : hv radix (l.take (k + j)) * 1 <= hv radix (l.take (k + j)) * radix:=Nat.mul_le_mul_left _ hr
  omega
theorem tr_of_ge {B : Nat} {l l' : List Nat} (hB : 1 < B) (hl : l.length = l'.length) (ht : Tr l) (hd : Dg B l') (h : val B l <= val B l') : Tr l':=by
 by_cases h0 : l' = []
 ·exact .inl h0
 ·refine .inr fun hz => ?_
  have hn : 0 < l'.length:=List.length_pos_iff.2 h0
  have h1:=ht.pos (B:=B) (by omega) (by intro e;rw [e] at hl;simp at hl;omega)
  have e1 : val B l' = val B (l'.take (l'.length - 1)):=by
   have h2:=val_take_zero B l' (l'.length - 1) (by omega) hz
   rw [show l'.length - 1 + 1 = l'.length by omega,List.take_of_length_le (Nat.le_refl _)] at h2
   exact h2
  have h3:=val_lt (hd.take (l'.length - 1))
  rw [List.length_take,Nat.min_eq_left (by omega),<- e1,<- hl] at h3
  omega
theorem tr_snoc {l : List Nat} {c : Nat} (h : c ≠ 0) : Tr (l ++ [c]):=.inr (by rw [getD_append_at (by simp)];exact h)
theorem big_of {l : List Nat} {c v : Nat} (hl : l.length = 40) (hc : c ≠ 0) (h : val B32 l + B32 ^ 40 * c = v) : Big v:=by
 unfold Big
 have : B32 ^ 40 * 1 <= B32 ^ 40 * c:=Nat.mul_le_mul_left _ (by omega)
 omega
def RowPost (w : World) (v : Nat) (e : Ending) (w' : World) : Prop :=
 ((¬ Big v /\ ∃ ao n cap r,e = .returned (.tuple #[.slice ao n cap,.bool true]) /\ Row .u32 B32 w' ao n cap r /\ Tr r /\ val B32 r = v /\ n <= 40) \/ (Big v /\ e = .returned (.tuple #[.slice none 0 0,.bool false]))) /\ Below w.heap.size w w'
set_option maxHeartbeats 2000000 in
theorem rowOf_any (s : ByteArray) (radix : Nat) (w : World) (hs : s.size <= maxLen) (hr1 : 2 <= radix) (hr2 : radix <= 36) (hd : ∀ j,j < s.size -> dgt ((bs s).getD j 0) < radix) :
  Calls Tryz.prog 210 #[.string s,.int .i64 radix] w (RowPost w (hv radix (bs s))):=by
 unfold maxLen at hs
 have HD:=hid hd
 clear hd
 have hrb : radix < 4294967296:=by omega
 go_enter Tryz.func210,Tryz.ntmps210
 go_wp2
 go_loopw [6,7,8] (fun v i _ wr=>∃ k n : Nat,∃ r : List Nat,k <= s.size /\ i = .int .i64 k /\ n <= 40 /\ Hid (wr.ownsRow w.heap.size 163 1 v n (cs .u32 r) /\ Dg B32 r /\ Tr r /\ val B32 r = hv radix ((bs s).take k) /\ Below w.heap.size w wr)) (fun _ i _ _=>s.size - (intOf i).toNat)
 case atStart=>exact ⟨0,0,[],Nat.zero_le _,rfl,by omega,World.ownsRow_nil _ _ _ _,Dg.nil _,Tr.nil,rfl,Below.refl _ _⟩
 case round =>
  obtain ⟨k,n,r,hk,rfl,hn,hI⟩:=hrel
  have hlr : r.length = n:=by have:=hI.out.1.1;rw [cs_length] at this;omega
  have HLR:=hid hlr
  clear hlr
  by_cases hlt : k < s.size
  ·have hgk := bs_get s k hlt
   obtain ⟨d,hdd⟩ : ∃ d,d = dgt (s[k]'hlt).toNat:=⟨_,rfl⟩
   have hd36 : d <= 36:=by rw [hdd];exact dgt_le _
   have HC : Hid (∀ wx,Calls Tryz.prog 215 #[.int .u8 ((s[k]'hlt).toNat : Nat)] wx fun e w'=>e = .returned (.int .i64 d) /\ w' = wx):=fun wx=>by rw [hdd];exact digitOf_any _ (s[k]'hlt).toNat_lt wx
   have HV : Hid (hv radix ((bs s).take (k + 1)) = val B32 r * radix + d):=by
    unfold Hid;rw [hv_take_succ radix _ k (by rw [bs_length];exact hlt),hgk,<- hdd,hI.out.2.2.2.1]
   clear hdd hgk
   have hsz : Hid (w.heap.size <= wr.heap.size):=hI.out.2.2.2.2.size
   by_cases hn0 : n = 0
   ·subst hn0
    have hrn : r = []:=List.length_eq_zero_iff.1 HLR.out
    subst hrn
    obtain ⟨ao,cap,hu,hO⟩:=own_of hI.out.1 hI.out.2.1
    subst hu
    have HB:=hid hI.out.2.2.2.2
    have HOW:=hid hI.out.1
    clear hO hI
    by_cases hd0 : d = 0
    ·subst hd0
     go_wp2_with (first | (go_at_call 215;refine (HC.out _).mono ?_;rintro e wx ⟨rfl,hwx⟩;rw [hwx];clear hwx) | (go_at_call 216;refine (mulSmall_none ao cap radix 0 _ hrb (by decide)).mono ?_;rintro e wx ⟨rfl,hwx⟩;rw [hwx];clear hwx))
     go_roundw
     case rel=>exact ⟨k + 1,0,[],by omega,by go_num,by omega,HOW.out,Dg.nil _,Tr.nil,by rw [HV.out];simp [val],HB.out⟩
     case measure=>simp [intOf];omega
    ·have e0 : ((d : Int) == 0) = false := by simp; omega
     go_wp2_with (first | (go_at_call 215;refine (HC.out _).mono ?_;rintro e wx ⟨rfl,hwx⟩;rw [hwx];clear hwx) | (go_at_call 216;refine (mulSmall_none ao cap radix d _ hrb (by unfold B32;omega)).mono ?_;rintro e wx ⟨rfl,hwx⟩;rw [hwx];clear hwx) | (at_builtin;refine app1 rfl _ _ 102 rfl w.heap.size 163 .u32 4 (by decide) Tryz.underlying102 info_u32 _ 0 [] rfl (HOW.out.alloc _) ⟨wr.heap.size,0,none⟩ 1 d rfl (cell_new _ _ _) (by omega) (by have:=hsz.out;simp;omega) ?_;intro g cap' w2 hown hbel))
     refine ⟨⟨k + 1,1,[d],by omega,by go_num,by omega,hown,Dg.one (by unfold B32;omega),tr_snoc (l:=[]) hd0,by rw [HV.out];simp [val],(HB.out.alloc hsz.out _).trans hbel⟩,by simp [intOf];omega⟩
   ·obtain ⟨g, cap, cur, hu, hg, hnc, hcm, hcs, hW⟩ := owns_win hI.out.1 (by omega)
    subst hu
    have hdgr:=hI.out.2.1
    have htr:=hI.out.2.2.1
    have HB:=hid hI.out.2.2.2.2
    have HM : Hid (∀ wx,wx = wr -> Calls Tryz.prog 216 #[.slice (some ⟨g,0,none⟩) n cap,.int .u32 radix,.int .u32 d] wx fun e w'=>∃ l' c,e = .returned (.int .u32 (c : Nat)) /\ Onto .u32 163 g 0 n wr w' cur l' /\ Dg B32 l' /\ c < B32 /\ val B32 l' + B32 ^ n * c = val B32 r * radix + d):=fun wx hwx=>by
     subst hwx;exact mulSmall_any g 0 n cap cur r radix d _ hW hdgr (by unfold maxLen;omega) hrb (by unfold B32;omega)
    have HTR:=hid htr
    have HG:=hid hg
    have HX:=hid (And.intro hnc (And.intro hcm hcs))
    have hcap2 : cap <= 9223372036854775807:=by unfold maxLen at hcm;omega
    clear hI hdgr htr hW hg hcm hcs
    go_wp2_with (go_at_call 215;refine (HC.out _).mono ?_;rintro e wx ⟨rfl,hwx⟩;rw [hwx];clear hwx)
    refine (HM.out _ rfl).mono ?_
    rintro e w1 ⟨l',c,rfl,hO,hd',hcb,hval⟩
    have hlen':=hO.len
    have HOW:=hid (owns_onto HG.out HX.out.1 HX.out.2.1 HX.out.2.2 hO)
    have HB1:=hid (HB.out.trans (hO.below HG.out))
    have HD':=hid hd'
    have HVAL:=hid hval
    have HL':=hid hlen'
    have hsz1 : Hid (w.heap.size <= w1.heap.size):=HB1.out.size
    unfold B32 at hcb
    clear hO hd' hval hlen'
    by_cases hc0 : c = 0
    ·subst hc0
     have HTR' : Hid (Tr l'):=by
      refine tr_of_ge (B:=B32) (by decide) (by rw [HLR.out,HL'.out]) HTR.out HD'.out ?_
      have h1:=HVAL.out
      have h2 : val B32 r * 1 <= val B32 r * radix:=Nat.mul_le_mul_left _ (by omega)
      simp at h1
      omega
     go_wp2
     go_roundw
     case rel=>exact ⟨k + 1,n,l',by omega,by go_num,hn,HOW.out,HD'.out,HTR'.out,by rw [HV.out,<- HVAL.out];simp,HB1.out⟩
     case measure=>simp [intOf];omega
    ·have e0 : ((c : Int) == 0) = false := by simp; omega
     by_cases hn40 : n = 40
     ·subst hn40
      have HBIG : Hid (Big (hv radix (bs s))):=by
       have h1 : Big (hv radix ((bs s).take (k + 1))):=by rw [HV.out];exact big_of HL'.out hc0 HVAL.out
       have h2:=hv_mono radix (by omega) (bs s) (k + 1) (s.size - (k + 1)) (by rw [bs_length];omega)
       rw [show k + 1 + (s.size - (k + 1)) = s.size by omega,List.take_of_length_le (l:=bs s) (i:=s.size) (by rw [bs_length];exact Nat.le_refl _)] at h2
       unfold Hid Big at *
       omega
      go_wp2
      go_ret2
      exact ⟨.inr ⟨HBIG.out,rfl⟩,HB1.out⟩
     ·have e40 : ((n : Int) == 40) = false := by simp; omega
      go_wp2_with (at_builtin;refine app1 rfl _ _ 102 rfl w.heap.size 163 .u32 4 (by decide) Tryz.underlying102 info_u32 _ n l' rfl (HOW.out.alloc _) ⟨w1.heap.size,0,none⟩ 1 c rfl (cell_new _ _ _) (by omega) (by have:=hsz1.out;simp;omega) ?_;intro g2 cap2 w2 hown hbel)
      refine ⟨⟨k + 1,n + 1,l' ++ [c],by omega,by go_num,by omega,hown,HD'.out.append (Dg.one (by unfold B32;omega)),tr_snoc hc0,?_,(HB1.out.alloc hsz1.out _).trans hbel⟩,by simp [intOf];omega⟩
      rw [HV.out,<- HVAL.out,val_snoc,HL'.out]
  ·obtain rfl : k = s.size := by omega
   obtain ⟨ao,cap,hu,hO⟩:=own_of hI.out.1 hI.out.2.1
   subst hu
   have HO:=hid hO
   clear hO
   go_wp2
   go_ret2
   obtain ⟨_,h2,h3,h4,h5⟩:=hI.out
   rw [List.take_of_length_le (by rw [bs_length];exact Nat.le_refl _)] at h4
   exact ⟨.inl ⟨by rw [<- h4,<- small_len h2 h3,HLR.out];exact hn,ao,n,cap,r,rfl,HO.out.row,h3,h4,hn⟩,h5⟩
def digitsB (radix : Int) (l : List Nat) : Bool:=l.all (fun c=>decide ((dgt c : Int) < radix)) && decide (l ≠ [])
def ParsePost (w : World) (s : List Nat) (radix : Int) (e : Ending) (w' : World) : Prop :=
 ∃ x en, e = .returned (.tuple #[x, .int .i64 en]) /\ Below w.heap.size w w' /\
  ((¬ (2 <= radix /\ radix <= 36) /\ x = .agg #[.bool false,.slice none 0 0] /\ en = 1) \/
   ((2 <= radix /\ radix <= 36) /\ digitsB radix (cutS s).2 = false /\ x = .agg #[.bool false,.slice none 0 0] /\ en = 12) \/
   ((2 <= radix /\ radix <= 36) /\ digitsB radix (cutS s).2 = true /\ Ans w' x en (cutS s).1 (hv radix.toNat (cutS s).2)))
set_option maxHeartbeats 1000000 in
theorem parse_any (s : ByteArray) (radix : Int) (w : World) (hs : s.size <= maxLen) :
  Calls Tryz.prog 197 #[.string s,.int .i64 radix] w (ParsePost w (bs s) radix):=by
 by_cases hr : 2 <= radix /\ radix <= 36
 ·obtain ⟨hr1, hr2⟩ := hr
  obtain ⟨rx,rfl⟩:=Int.eq_ofNat_of_zero_le (by omega : 0 <= radix)
  have HC : Hid (∀ wx,Calls Tryz.prog 183 #[.int .i64 rx] wx fun e w'=>e = .returned (.bool true) /\ w' = wx):=fun wx=>(isRadix_any rx wx).mono fun e w' ⟨h1,h2⟩=>⟨by rw [h1];simp;omega,h2⟩
  go_enter Tryz.func197,Tryz.ntmps197
  go_wp2_with fail
  refine (HC.out _).mono ?_
  rintro e wx ⟨rfl,hwx⟩
  rw [hwx]
  clear hwx
  go_wp2_with fail
  refine (cutSign_any s _ hs).mono ?_
  rintro e w1 ⟨t,rfl,ht,hb1⟩
  have htl : t.size <= s.size:=by rw [<- bs_length,<- bs_length,ht];exact cutS_len _
  have X:=hid ((Box.new 104 w false none 0 0).on hb1)
  have HB1:=hid (Bt (Ba w (.cells #[.bool false,.slice none 0 0] 104)) hb1)
  obtain ⟨ng,hng⟩ : ∃ ng,ng = (cutS (bs s)).1:=⟨_,rfl⟩
  rw [<- hng]
  have HNG:=hid hng
  have HT:=hid ht
  have hts : t.size <= maxLen:=Nat.le_trans htl hs
  obtain ⟨ad,had⟩ : ∃ ad,ad = ((bs t).all (fun c=>decide (dgt c < rx)) && decide (bs t ≠ [])):=⟨_,rfl⟩
  have HAD : Hid (digitsB (rx : Int) (cutS (bs s)).2 = ad):=by
   unfold Hid digitsB
   rw [had,<- ht]
   simp
  have HAC : Hid (∀ wx,Calls Tryz.prog 209 #[.string t,.int .i64 rx] wx fun e w'=>e = .returned (.bool ad) /\ w' = wx):=fun wx=>by rw [had];exact allDigits_any t rx wx hts (by omega)
  have HAL : Hid (ad = true -> ∀ j,j < t.size -> dgt ((bs t).getD j 0) < rx):=by
   unfold Hid
   intro h j hj
   rw [had,Bool.and_eq_true,List.all_eq_true] at h
   have:=h.1 _ (getD_mem (l:=bs t) (k:=j) (by rw [bs_length];exact hj))
   simpa using this
  clear hng ht hb1 htl had
  go_wp2_with fail
  refine (HAC.out _).mono ?_
  rintro e wx2 ⟨rfl,hwx⟩
  rw [hwx]
  clear hwx
  obtain ⟨q0,q1⟩:=X.out.c
  obtain ⟨f0,f1⟩:=X.out.f
  cases ad
  ·go_wp2
   have y:=X.out.set2 false none 0 0
   obtain ⟨y0,y1⟩:=y.c
   exact bodyPost_ret (v:=.tuple #[.agg #[.bool false,.slice none 0 0],.int .i64 12]) (by simp [results,Tryz.results197,go_sem,y0,y1]) rfl ⟨_,_,rfl,(HB1.out.setCell (Nat.le_refl _) _).setCell (Nat.le_refl _) _,.inr (.inl ⟨⟨hr1,hr2⟩,HAD.out,rfl,rfl⟩)⟩
  ·clear q0 q1 f0 f1
   go_wp2_with fail
   refine (rowOf_any t rx w1 hts (by omega) (by omega) (HAL.out (by first | rfl | trivial))).mono ?_
   rintro e w2 ⟨hp,hb2⟩
   have X2:=hid (X.out.on hb2)
   have HB2:=hid (Bt HB1.out hb2)
   rw [HT.out] at hp
   rcases hp with ⟨hnb,ao,n,cap,r,rfl,hR,htr,hvr,hn⟩ | ⟨hbig,rfl⟩
   ·have HNB := hid hnb
    have HVR:=hid hvr
    have HRR:=hid hR
    clear hb2 hnb hvr hR htr
    go_wp2_with fail
    refine (whole_any ng ao n cap r w2 HRR.out).mono ?_
    rintro e w3 ⟨x,l,rfl,hI,htl,hvl,hll,hb3⟩
    obtain ⟨ax,nx,cx,sg,rfl,HSG,Rx⟩:=hI.open_
    have X3:=hid (X2.out.on hb3)
    obtain ⟨q0,q1⟩:=X3.out.c
    obtain ⟨f0,f1⟩:=X3.out.f
    have HB3:=hid (Bt HB2.out hb3)
    have HTL:=hid htl
    have HVL:=hid hvl
    have HRx:=hid Rx
    clear hI htl hvl hb3 Rx
    go_wp2
    have y:=X3.out.set2 sg ax nx cx
    obtain ⟨y0,y1⟩:=y.c
    refine bodyPost_ret (v:=.tuple #[.agg #[.bool sg,.slice ax nx cx],.int .i64 0]) (by simp [results,Tryz.results197,go_sem,y0,y1]) rfl ⟨_,_,rfl,(HB3.out.setCell (Nat.le_refl _) _).setCell (Nat.le_refl _) _,.inr (.inr ⟨⟨hr1,hr2⟩,HAD.out,.inl ⟨?_,rfl,l,⟨ax,nx,cx,?_,HRx.out.setBox2 X3.out _ _⟩,HTL.out,?_⟩⟩)⟩
    ·simpa using HNB.out
    ·rw [HSG.out,HNG.out]
    ·rw [HVL.out,HVR.out];simp
   ·obtain ⟨q0, q1⟩ := X2.out.c
    obtain ⟨f0,f1⟩:=X2.out.f
    have HBG:=hid hbig
    clear hb2 hbig
    go_wp2
    have y:=X2.out.set2 false none 0 0
    obtain ⟨y0,y1⟩:=y.c
    refine bodyPost_ret (v:=.tuple #[.agg #[.bool false,.slice none 0 0],.int .i64 10]) (by simp [results,Tryz.results197,go_sem,y0,y1]) rfl ⟨_,_,rfl,(HB2.out.setCell (Nat.le_refl _) _).setCell (Nat.le_refl _) _,.inr (.inr ⟨⟨hr1,hr2⟩,HAD.out,.inr ⟨?_,rfl,rfl⟩⟩)⟩
    simpa using HBG.out
 ·have HC : Hid (∀ wx, Calls Tryz.prog 183 #[.int .i64 radix] wx fun e w' => e = .returned (.bool false) /\ w' = wx) := fun wx => (isRadix_any radix wx).mono fun e w' ⟨h1, h2⟩ => ⟨by rw [h1]; simp; omega, h2⟩
  have HR:=hid hr
  clear hr
  go_enter Tryz.func197,Tryz.ntmps197
  go_wp2_with (go_at_call 183;refine (HC.out _).mono ?_;rintro e wx ⟨rfl,hwx⟩;rw [hwx];clear hwx)
  exact bodyPost_ret (v:=.tuple #[.agg #[.bool false,.slice none 0 0],.int .i64 1]) (by simp [results,Tryz.results197,go_sem]) rfl ⟨_,_,rfl,Ba _ _,.inl ⟨HR.out,rfl,rfl⟩⟩
def Turned (n k : Nat) (l L : List Nat) : Prop:=∀ x,x < n -> L.getD x 0 = if x < k \/ n <= x + k then l.getD (n - 1 - x) 0 else l.getD x 0
theorem turned_start (n : Nat) (l : List Nat) : Turned n 0 l l:=by
 intro x hx
 rw [if_neg (by omega)]
theorem turned_step {n k j : Nat} {l L : List Nat} (hn : k + j + 1 = n) (hkj : k < j) (hL : L.length = n) (h : Turned n k l L) : Turned n (k + 1) l ((L.set k (l.getD j 0)).set j (l.getD k 0)):=by
 intro x hx
 rw [getD_set (by simp;omega),getD_set (by omega)]
 by_cases h1 : x = j
 ·subst h1
  rw [if_pos rfl,if_pos (by omega),show n - 1 - x = k by omega]
 ·rw [if_neg h1]
  by_cases h2 : x = k
  ·subst h2
   rw [if_pos rfl,if_pos (by omega),show n - 1 - x = j by omega]
  ·rw [if_neg h2, h x hx]
   by_cases h3 : x < k \/ n <= x + k
   ·rw [if_pos h3,if_pos (by omega)]
   ·rw [if_neg h3,if_neg (by omega)]
theorem turned_end {n k j : Nat} {l L : List Nat} (hn : k + j + 1 = n) (hkj : j <= k) (hl : l.length = n) (hL : L.length = n) (h : Turned n k l L) : L = l.reverse:=by
 apply List.ext_getElem (by simp [hl,hL])
 intro i h1 h2
 have hi : i < n:=by omega
 have:=h i hi
 rw [List.getD_eq_getElem?_getD,List.getElem?_eq_getElem h1] at this
 rw [List.getElem_reverse]
 simp only [Option.getD_some] at this
 rw [this]
 by_cases h3 : i < k \/ n <= i + k
 ·rw [if_pos h3, List.getD_eq_getElem?_getD, List.getElem?_eq_getElem (by omega)]
  simp only [Option.getD_some,hl]
 ·rw [if_neg h3, List.getD_eq_getElem?_getD, List.getElem?_eq_getElem (by omega)]
  simp only [Option.getD_some,hl]
  congr 1
  omega
set_option maxHeartbeats 1000000 in
theorem reverse_any (g n cap : Nat) (cur : Array Value) (l : List Nat) (w : World) (W : Win .u8 5 w g 0 n cur l) (hd : Dg 256 l) (hn : n <= maxLen) (hn0 : 0 < n) :
  Calls Tryz.prog 187 #[.slice (some ⟨g,0,none⟩) n cap] w fun e w'=>e = .returned (.tuple #[]) /\ Onto .u8 5 g 0 n w w' cur l.reverse:=by
 have HW:=hid W
 have HL:=hid W.len
 unfold maxLen at hn
 clear W hd
 go_enter Tryz.func187,Tryz.ntmps187
 go_wp2
 go_loopw [2,3] (fun a b wr=>∃ k j : Nat,∃ L : List Nat,k <= n /\ j < n /\ a = .int .i64 k /\ b = .int .i64 j /\ Hid (k + j + 1 = n /\ Onto .u8 5 g 0 n w wr cur L /\ Turned n k l L)) (fun _ b _=>(intOf b).toNat)
 case atStart=>exact ⟨0,n - 1,l,by omega,by omega,rfl,by go_num,by omega,HW.out.onto,turned_start _ _⟩
 case round =>
  obtain ⟨k,j,L,hk,hj,rfl,rfl,hI⟩:=hrel
  by_cases hlt : k < j
  ·obtain ⟨h1, h2, h3⟩ := hI.out
   have c1 : wr.cell? ⟨g,k,none⟩ = some (.int .u8 (l.getD k 0 : Nat)):=by
    have:=h2.cell (i:=k) (by omega)
    rw [h3 k (by omega),if_neg (by omega),Nat.zero_add] at this
    exact this
   have c2 : wr.cell? ⟨g,j,none⟩ = some (.int .u8 (l.getD j 0 : Nat)):=by
    have:=h2.cell (i:=j) (by omega)
    rw [h3 j (by omega),if_neg (by omega),Nat.zero_add] at this
    exact this
   have f1:=h2.frozen k
   have f2:=h2.frozen j
   obtain ⟨x,hx⟩ : ∃ x,x = l.getD k 0:=⟨_,rfl⟩
   obtain ⟨y,hy⟩ : ∃ y,y = l.getD j 0:=⟨_,rfl⟩
   rw [<- hx] at c1
   rw [<- hy] at c2
   have HX:=hid hx
   have HY:=hid hy
   have hpos : (0 : Int) <= j:=by omega
   clear h1 h2 h3 hx hy
   go_wp2
   go_region
   go_wp2
   go_roundw
   case rel =>
    obtain ⟨h1,h2,h3⟩:=hI.out
    have s1:=h2.store (i:=k) (by omega) y
    have s2:=s1.store (i:=j) (by omega) x
    rw [Nat.zero_add,Nat.zero_add] at s2
    refine ⟨k + 1,j - 1,(L.set k y).set j x,by omega,by omega,by go_num,by go_num,by omega,s2.drewN 1,?_⟩
    rw [HX.out,HY.out]
    exact turned_step h1 hlt h2.len h3
   case measure=>simp [intOf];omega
  ·go_wp2
   go_end0
   obtain ⟨h1,h2,h3⟩:=hI.out
   exact ⟨rfl,h2.congr (turned_end h1 (by omega) HL.out h2.len h3)⟩
def chr (d : Nat) : Nat:=if d < 10 then 48 + d else 87 + d
theorem chr_lt {d : Nat} (h : d < 36) : chr d < 256:=by unfold chr;split <;> omega
def digitText : ByteArray:=⟨#[48,49,50,51,52,53,54,55,56,57,97,98,99,100,101,102,103,104,105,106,107,108,109,110,111,112,113,114,115,116,117,118,119,120,121,122]⟩
theorem dt_get (d : Nat) (h : d < 36) : (digitText[d]'h).toNat = chr d:=by
 have : ∀ d : Fin 36,(digitText[d.1]'d.2).toNat = chr d.1:=by decide
 exact this ⟨d,h⟩
theorem pow_bound {l : List Nat} (h : Dg B32 l) (hl : l.length <= 40) : ∃ N,N <= 1280 /\ val B32 l < 2 ^ N:=by
 refine ⟨32 * l.length,by omega,?_⟩
 have:=val_lt h
 rw [show B32 = 2 ^ 32 from rfl,<- Nat.pow_mul] at this
 exact this
theorem half_lt {v radix gk : Nat} (hr : 2 <= radix) (hv : v ≠ 0) (h : v < 2 ^ gk) : 1 <= gk /\ v / radix < 2 ^ (gk - 1):=by
 cases gk with
 | zero=>simp at h;omega
 | succ k =>
  refine ⟨by omega,?_⟩
  rw [Nat.add_sub_cancel,Nat.div_lt_iff_lt_mul (by omega)]
  rw [Nat.pow_succ] at h
  have : 2 ^ k * 2 <= 2 ^ k * radix:=Nat.mul_le_mul_left _ hr
  omega
theorem print_val {radix vD P v V : Nat} (h : vD + P * v = V) : vD + P * (v % radix) + P * radix * (v / radix) = V:=by
 rw [Nat.add_assoc,Nat.mul_assoc,<- Nat.mul_add,Nat.add_comm (v % radix),Nat.div_add_mod];exact h
def PrintPost (w : World) (neg : Bool) (v : Nat) (radix : Nat) (e : Ending) (w' : World) : Prop :=
 ∃ s D,e = .returned (.tuple #[.string s,.int .i64 0]) /\ Dg radix D /\ Tr D /\ val radix D = v /\ bs s = (if neg then [45] else []) ++ (D.map chr).reverse /\ Below w.heap.size w w'
theorem conv_run {w : World} {g n cap : Nat} {cur : Array Value} {l : List Nat} (hW : Win .u8 5 w g 0 n cur l) (hd : Dg 256 l) :
  ∃ S : ByteArray,(convert 123 9 (.slice (some ⟨g,0,none⟩) n cap)).run Tryz.prog w = .ok (.string S) w /\ bs S = l:=by
 have hl:=hW.len
 have hu : (l.map UInt8.ofNat).map UInt8.toNat = l:=by
  rw [List.map_map]
  conv=>rhs;rw [<- List.map_id l]
  apply List.map_congr_left
  intro x hx
  have:=hd x hx
  simp only [Function.comp,id]
  rw [UInt8.toNat_ofNat']
  omega
 refine ⟨⟨(l.map UInt8.ofNat).toArray⟩,?_,?_⟩
 ·have := run_convert_bytes_back (P := Tryz.prog) w 123 9 5 ⟨g, 0, none⟩ cap (l.map UInt8.ofNat) Tryz.underlying123 Tryz.underlying5 Tryz.underlying9 (fun j hj => by
   rw [List.length_map,hl] at hj
   have h1:=hW.cell (i:=j) hj
   have h2 : (l.map UInt8.ofNat)[j].toNat = l.getD j 0:=by
    rw [List.getElem_map,List.getD_eq_getElem?_getD,List.getElem?_eq_getElem (by omega),UInt8.toNat_ofNat']
    have:=hd l[j] (List.getElem_mem _)
    simp only [Option.getD_some]
    omega
   rw [h2]
   unfold Addr.add
   by_cases h0 : j = 0
   ·subst h0;simpa using h1
   ·rw [if_neg h0];exact h1)
  rw [List.length_map,hl] at this
  exact this
 ·unfold bs;simpa using hu
set_option maxHeartbeats 2000000 in
theorem print_any (neg : Bool) (ao : Option Addr) (n cap : Nat) (l : List Nat) (radix : Nat) (w : World) (R : Row .u32 B32 w ao n cap l) (g1 : goodB neg l = true) (hr1 : 2 <= radix) (hr2 : radix <= 36) (h0 : n ≠ 0) :
  Calls Tryz.prog 160 #[.agg #[.bool neg,.slice ao n cap],.int .i64 radix] w (PrintPost w neg (val B32 l) radix):=by
 have HR:=hid R
 have G1:=hid g1
 have hn40 : n <= 40:=by rw [<- R.len];exact goodB_len g1
 have hmx:=R.most
 have hft:=R.fits
 unfold maxLen at hmx
 have e1 : ((n : Int) == 0) = false:=by simp;omega
 have HC : Hid (∀ wx,Calls Tryz.prog 183 #[.int .i64 radix] wx fun e w'=>e = .returned (.bool true) /\ w' = wx):=fun wx=>(isRadix_any radix wx).mono fun e w' ⟨h1,h2⟩=>⟨by rw [h1];simp;omega,h2⟩
 clear R g1
 go_enter Tryz.func160,Tryz.ntmps160
 go_wp2_with fail
 refine (HC.out _).mono ?_
 rintro e wx ⟨rfl,hwx⟩
 rw [hwx]
 clear hwx
 go_wp2_with fail
 refine (good_any neg ao n cap l _ (HR.out.below (Ba _ _))).mono ?_
 rintro e w1 ⟨rfl,hb1⟩
 rw [G1.out]
 have X1:=hid ((Box.new 104 w neg ao n cap).on hb1)
 have HB1:=hid (Bt (Ba w (.cells #[.bool neg,.slice ao n cap] 104)) hb1)
 obtain ⟨c0,c1⟩:=X1.out.c
 clear hb1
 go_wp2_with fail
 refine (clone_any ao n cap l w1 (HR.out.below HB1.out) (by omega)).mono ?_
 rintro e w2 ⟨ao2,cap2,rfl,hO,hb2⟩
 obtain ⟨g,cur,rfl,hg,hW⟩:=hO.own.resolve_left h0
 have X2:=hid (X1.out.on hb2)
 have HB2:=hid (Bt HB1.out hb2)
 have hgp : Hid (w.heap.size < g):=by have:=X1.out.lt;unfold Hid;omega
 have hg2 : Hid (g < w2.heap.size):=hW.lt
 have hdl:=hO.row.dg
 have hcf2:=hO.row.fits
 have hcm2:=hO.row.most
 have HW:=hid hW
 have HDL:=hid hdl
 unfold maxLen at hcm2
 clear c0 c1 hb2 hO hW hdl hg
 go_wp2
 obtain ⟨N,hN,hNv⟩:=pow_bound HDL.out (by rw [HR.out.len];exact hn40)
 have HNV:=hid hNv
 clear hNv
 go_loopg [6,7] N (fun gk t v wr=>∃ m c : Nat,∃ r D : List Nat,v = .slice (some ⟨g,0,none⟩) m c /\ m <= c /\ c <= cap2 /\ m <= 40 /\ D.length + gk <= N /\ Hid ((∃ cur',Win .u32 163 wr g 0 m cur' r) /\ Dg B32 r /\ Tr r /\ wr.ownsRow w2.heap.size 5 1 t D.length (cs .u8 (D.map chr)) /\ Dg radix D /\ (r = [] -> Tr D) /\ val radix D + radix ^ D.length * val B32 r = val B32 l /\ Box 104 wr w.heap.size neg ao n cap /\ Below w.heap.size w wr /\ w2.heap.size <= wr.heap.size /\ val B32 r < 2 ^ gk))
 case atStart =>
  refine ⟨n,cap2,l,[],rfl,hcf2,Nat.le_refl _,hn40,by simp,⟨cur,HW.out⟩,HDL.out,goodB_tr G1.out,World.ownsRow_nil _ _ _ _,Dg.nil _,fun h=>?_,by simp [val],X2.out,HB2.out,Nat.le_refl _,?_⟩
  ·exact absurd (by rw [<- HR.out.len,h];rfl) h0
  ·exact HNV.out
 case round =>
  obtain ⟨m,c,r,D,rfl,hmc,hcc,hm40,hDk,hI⟩:=hrel
  by_cases hm0 : m = 0
  ·subst hm0
   obtain ⟨⟨cur',hW'⟩,i2,i3,i4,i5,i6,i7,i8,i9,i10,i11⟩:=hI.out
   have hrn : r = []:=List.length_eq_zero_iff.1 hW'.len
   subst hrn
   have hDl : D.length ≠ 0:=by
    intro e
    have hD0 : D = []:=List.length_eq_zero_iff.1 e
    subst hD0
    simp [val] at i7
    exact (goodB_tr G1.out).ne_zero (B:=B32) (by decide) (fun e=>h0 (by rw [<- HR.out.len,e];rfl)) i7.symm
   have HTD:=hid (i6 rfl)
   have HVD : Hid (val radix D = val B32 l):=by have:=i7;simp [val] at this;exact this
   have HDD:=hid i5
   have HOW:=hid i4
   have HBX:=hid i8
   have HBL:=hid i9
   have HZ:=hid i10
   obtain ⟨c0,c1⟩:=HBX.out.c
   clear hI hW' i2 i3 i4 i5 i6 i7 i8 i9 i10 i11
   cases neg
   ·obtain ⟨g3, cap3, cur3, hu, hg3, hnc, hcm, hcs, hW3⟩ := owns_win HOW.out (by omega)
    subst hu
    have HW3:=hid hW3
    have HG3:=hid hg3
    have HD3 : Hid (Dg 256 (D.map chr)):=by
     intro x hx
     obtain ⟨y,hy,rfl⟩:=List.mem_map.1 hx
     exact chr_lt (by have:=HDD.out y hy;omega)
    clear hW3 hg3
    go_wp2_with fail
    refine (reverse_any g3 D.length cap3 cur3 (D.map chr) wr HW3.out HD3.out (Nat.le_trans hnc hcm) (by omega)).mono ?_
    rintro e w3 ⟨rfl,hO⟩
    obtain ⟨cur4,hW4,_,_⟩:=hO.row
    obtain ⟨S,hS,hbS⟩:=conv_run (cap:=cap3) hW4 (by intro x hx;exact HD3.out x (by simpa using hx))
    have HBS:=hid hbS
    have HBE:=hid (HBL.out.trans (hO.below (Nat.le_trans HB2.out.size HG3.out)))
    clear hO hW4 hbS
    go_wp2
    go_ret2
    exact ⟨S,D,rfl,HDD.out,HTD.out,HVD.out,by rw [HBS.out];rfl,HBE.out⟩
   ·have HD3 : Hid (Dg 256 (D.map chr ++ [45])) := by
     refine Dg.append ?_ (Dg.one (by omega))
     intro x hx
     obtain ⟨y,hy,rfl⟩:=List.mem_map.1 hx
     exact chr_lt (by have:=HDD.out y hy;omega)
    have hsw : Hid (w.heap.size <= wr.heap.size):=HBL.out.size
    go_wp2_with (at_builtin;refine app1 rfl _ _ 123 rfl w2.heap.size 5 .u8 1 (by decide) Tryz.underlying123 info_u8 _ D.length (D.map chr) rfl (HOW.out.alloc _) ⟨wr.heap.size,0,none⟩ 1 45 rfl (cell_new _ _ _) (by omega) (by have:=HZ.out;simp;omega) ?_;intro g2 cap3 w4 hown hbel)
    obtain ⟨g3,cap4,cur3,hu,hg3,hnc,hcm,hcs,hW3⟩:=owns_win hown (by omega)
    cases hu
    have HBL4:=hid ((HBL.out.alloc hsw.out _).trans (hbel.mono HB2.out.size))
    clear hown hbel
    refine (reverse_any g2 (D.length + 1) cap3 cur3 (D.map chr ++ [45]) w4 hW3 HD3.out (Nat.le_trans hnc hcm) (by omega)).mono ?_
    rintro e w3 ⟨rfl,hO⟩
    obtain ⟨cur4,hW4,_,_⟩:=hO.row
    obtain ⟨S,hS,hbS⟩:=conv_run (cap:=cap3) hW4 (by intro x hx;exact HD3.out x (List.mem_reverse.1 hx))
    have HBS:=hid hbS
    have HBE:=hid (HBL4.out.trans (hO.below (Nat.le_trans HB2.out.size hg3)))
    clear hO hW4 hbS hW3
    go_wp2
    go_ret2
    exact ⟨S,D,rfl,HDD.out,HTD.out,HVD.out,by rw [HBS.out];simp,HBE.out⟩
  ·have e0 : decide ((0 : Int) < m) = true := by simp; omega
   obtain ⟨⟨cur',hW'⟩,i2,i3,i4,i5,i6,i7,i8,i9,i10,i11⟩:=hI.out
   have hlr:=hW'.len
   obtain ⟨d,hd⟩ : ∃ d,d = val B32 r % radix:=⟨_,rfl⟩
   have hdr : d < radix:=by rw [hd];exact Nat.mod_lt _ (by omega)
   have HDV : Hid (Calls Tryz.prog 186 #[.slice (some ⟨g,0,none⟩) m c,.int .u32 radix] wr fun e w'=>e = .returned (.int .u32 (d : Nat)) /\ ∃ l',Onto .u32 163 g 0 m wr w' cur' l' /\ Dg B32 l' /\ val B32 l' = val B32 r / radix):=by
    rw [hd];exact divSmall_any g 0 m c cur' r radix wr hW' i2 (by unfold maxLen;omega) (by omega) (by unfold B32;omega)
   have HD:=hid hd
   have I:=hid (And.intro i3 (And.intro i4 (And.intro i5 (And.intro i7 (And.intro i8 (And.intro i9 (And.intro i10 i11)))))))
   have HLR:=hid hlr
   clear hd hI hW' i2 i3 i4 i5 i6 i7 i8 i9 i10 i11 hlr
   go_wp2_with fail
   refine HDV.out.mono ?_
   rintro e w3 ⟨rfl,l',hO,hD',hV'⟩
   have HO:=hid hO
   have HD':=hid hD'
   have HV':=hid hV'
   have hsz3:=hid hO.size
   clear hO hD' hV'
   have hbig3 : Hid (w2.heap.size <= w3.heap.size):=by unfold Hid;rw [hsz3.out];exact I.out.2.2.2.2.2.2.1
   have hdt:=dt_get d (by omega)
   have HDT : Hid (∀ h,(digitText[d]'h).toNat = chr d):=fun h=>dt_get d (by omega)
   have HOT:=hid (owns_far I.out.2.1 hg2.out HO.out)
   clear hdt
   go_wp2_with (at_builtin;refine app1 rfl _ _ 123 rfl w2.heap.size 5 .u8 1 (by decide) Tryz.underlying123 info_u8 _ D.length (D.map chr) rfl (HOT.out.alloc _) ⟨w3.heap.size,0,none⟩ 1 (chr d) rfl ?c1 (by omega) (by have:=hbig3.out;simp;omega) ?_;rotate_right;intro g2 cap3 w4 hown hbel)
   case c1=>exact (cell_new _ _ _).trans (congrArg (fun z : Nat=>some (Value.int .u8 z)) (HDT.out _))
   obtain ⟨cur3,hW3,_,_⟩:=HO.out.row
   have hW4:=(hW3.below (Ba w3 _)).on hbel hg2.out
   have hbw : Below w.heap.size w w4:=((I.out.2.2.2.2.2.1.trans (HO.out.below (Nat.le_of_lt hgp.out))).alloc (by have:=hbig3.out;have:=HB2.out.size;omega) _).trans (hbel.mono HB2.out.size)
   have hbx : Box 104 w4 w.heap.size neg ao n cap:=((show Box 104 w3 w.heap.size neg ao n cap from (HO.out.block _ (by have:=hgp.out;omega)).trans I.out.2.2.2.2.1).alloc _).below hbel (by have:=hgp.out;have:=hg2.out;omega)
   have HW4:=hid hW4
   have HBW:=hid hbw
   have HBX:=hid hbx
   have HOWN:=hid hown
   have hsz4 : Hid (w2.heap.size <= w4.heap.size):=by have:=hbel.size;have:=hbig3.out;unfold Hid;simp at *;omega
   clear hW3 hW4 hbw hbx hown hbel
   have hRow : Row .u32 B32 w4 (some ⟨g,0,none⟩) m c l':=⟨HW4.out.len,hmc,by unfold maxLen;omega,fun h=>(by cases h),HD'.out,HW4.out.rd⟩
   refine (trim_any (some ⟨g,0,none⟩) m c l' w4 hRow).mono ?_
   rintro e w5 ⟨m',hm',rfl,hw5,ht5,hv5⟩
   rw [hw5]
   have HT5:=hid ht5
   have HV5:=hid hv5
   clear hw5 ht5 hv5 hRow
   go_wp2
   go_roundg (gk - 1)
   case measure =>
    have h1:=I.out.1.ne_zero (B:=B32) (by decide) (fun e=>hm0 (by rw [<- HLR.out,e];rfl))
    have:=(half_lt hr1 h1 I.out.2.2.2.2.2.2.2).1
    omega
   case rel =>
    have hne:=I.out.1.ne_zero (B:=B32) (by decide) (fun e=>hm0 (by rw [<- HLR.out,e];rfl))
    have hhalf:=half_lt hr1 hne I.out.2.2.2.2.2.2.2
    refine ⟨m',m',l'.take m',D ++ [d],rfl,Nat.le_refl _,by omega,by omega,by simp;omega,⟨_,HW4.out.take hm'⟩,HD'.out.take m',HT5.out,?_,I.out.2.2.1.append (Dg.one hdr),?_,?_,HBX.out,HBW.out,hsz4.out,?_⟩
    ·have := HOWN.out
     rw [List.length_append,List.map_append]
     exact this
    ·intro hnil
     refine tr_snoc fun hd0=>?_
     have h1 : val B32 l' = 0:=by rw [<- HV5.out,hnil];rfl
     rw [HV'.out] at h1
     have h2:=Nat.div_add_mod (val B32 r) radix
     rw [h1,<- HD.out,hd0] at h2
     simp at h2
     omega
    ·rw [val_snoc, List.length_append, HV5.out, HV'.out, HD.out]
     show val radix D + radix ^ D.length * (val B32 r % radix) + radix ^ (D.length + 1) * (val B32 r / radix) = _
     rw [Nat.pow_succ]
     exact print_val I.out.2.2.2.1
    ·rw [HV5.out,HV'.out];exact hhalf.2
def sgn (neg : Bool) (v : Nat) : Int:=if neg then - (v : Int) else v
theorem map_toNat_inj : ∀ {a b : List UInt8},a.map UInt8.toNat = b.map UInt8.toNat -> a = b
 | [],[],_=>rfl
 | [],_ :: _,h=>by simp at h
 | _ :: _,[],h=>by simp at h
 | x :: a,y :: b,h=>by
  simp only [List.map_cons,List.cons.injEq] at h
  rw [UInt8.toNat_inj.1 h.1,map_toNat_inj h.2]
end Go.Proofs.YticimejfjjmikaaGreatDoor
