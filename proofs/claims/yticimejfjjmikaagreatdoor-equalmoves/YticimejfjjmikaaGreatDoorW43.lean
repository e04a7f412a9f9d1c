import Derived.Test.YticimejfjjmikaaGreatDoorW13
import Derived.Deep.LoopGhost
import Derived.Test.YticimejfjjmikaaGreatDoorW7
set_option linter.unusedVariables false
set_option linter.unusedSimpArgs false
namespace Go.Proofs.YticimejfjjmikaaGreatDoor
open Go.RowKit
def zkf (n k : Nat) (l L : List Nat) : Prop:=∀ x,x < n -> L.getD x 0 = if x < k \/ n <= x + k then l.getD (n - 1 - x) 0 else l.getD x 0
theorem zkg (n : Nat) (l : List Nat) : zkf n 0 l l:=by
 intro x hx
 rw [if_neg (by omega)]
theorem zmz {n k j : Nat} {l L : List Nat} (hn : k + j + 1 = n) (hkj : k < j) (hL : L.length = n) (h : zkf n k l L) : zkf n (k + 1) l ((L.set k (l.getD j 0)).set j (l.getD k 0)):=by
 intro x hx
 rw [zig (by simp;omega),zig (by omega)]
 by_cases h1 : x = j
 ·subst h1
  rw [if_pos rfl,if_pos (by omega),show n - 1 - x = k by omega]
 ·rw [if_neg h1]
  by_cases h2 : x = k
  ·subst h2
   rw [if_pos rfl,if_pos (by omega),show n - 1 - x = j by omega]
  ·rw [if_neg h2, h x hx]
   by_cases h3 : x < k \/ n <= x + k
   ·rw [if_pos h3,if_pos (by omega)]
   ·rw [if_neg h3,if_neg (by omega)]
theorem zqy {n k j : Nat} {l L : List Nat} (hn : k + j + 1 = n) (hkj : j <= k) (hl : l.length = n) (hL : L.length = n) (h : zkf n k l L) : L = l.reverse:=by
 apply List.ext_getElem (by simp [hl,hL])
 intro i h1 h2
 have hi : i < n:=by omega
 have:=h i hi
 rw [List.getD_eq_getElem?_getD,List.getElem?_eq_getElem h1] at this
 rw [List.getElem_reverse]
 simp only [Option.getD_some] at this
 rw [this]
 by_cases h3 : i < k \/ n <= i + k
 ·rw [if_pos h3, List.getD_eq_getElem?_getD, List.getElem?_eq_getElem (by omega)]
  simp only [Option.getD_some,hl]
 ·rw [if_neg h3, List.getD_eq_getElem?_getD, List.getElem?_eq_getElem (by omega)]
  simp only [Option.getD_some,hl]
  congr 1
  omega
set_option maxHeartbeats 1000000 in
theorem zfg (g n cap : Nat) (cur : Array Value) (l : List Nat) (w : World) (W : Win .u8 5 w g 0 n cur l) (hd : Dg 256 l) (hn : n <= maxLen) (hn0 : 0 < n) :
  Calls Tryz.prog 187 #[.slice (some ⟨g,0,none⟩) n cap] w fun e w'=>e = .returned (.tuple #[]) /\ Onto .u8 5 g 0 n w w' cur l.reverse:=by
 have HW:=hid W
 have HL:=hid W.len
 unfold maxLen at hn
 clear W hd
 go_enter Tryz.func187,Tryz.ntmps187
 go_wp2
 go_loopw [2,3] (fun a b wr=>∃ k j : Nat,∃ L : List Nat,k <= n /\ j < n /\ a = .int .i64 k /\ b = .int .i64 j /\ Hid (k + j + 1 = n /\ Onto .u8 5 g 0 n w wr cur L /\ zkf n k l L)) (fun _ b _=>(intOf b).toNat)
 case atStart=>exact ⟨0,n - 1,l,by omega,by omega,rfl,by go_num,by omega,HW.out.onto,zkg _ _⟩
 case round =>
  obtain ⟨k,j,L,hk,hj,rfl,rfl,hI⟩:=hrel
  by_cases hlt : k < j
  ·obtain ⟨h1, h2, h3⟩ := hI.out
   have c1 : wr.cell? ⟨g,k,none⟩ = some (.int .u8 (l.getD k 0 : Nat)):=by
    have:=h2.cell (i:=k) (by omega)
    rw [h3 k (by omega),if_neg (by omega),Nat.zero_add] at this
    exact this
   have c2 : wr.cell? ⟨g,j,none⟩ = some (.int .u8 (l.getD j 0 : Nat)):=by
    have:=h2.cell (i:=j) (by omega)
    rw [h3 j (by omega),if_neg (by omega),Nat.zero_add] at this
    exact this
   have f1:=h2.frozen k
   have f2:=h2.frozen j
   obtain ⟨x,hx⟩ : ∃ x,x = l.getD k 0:=⟨_,rfl⟩
   obtain ⟨y,hy⟩ : ∃ y,y = l.getD j 0:=⟨_,rfl⟩
   rw [<- hx] at c1
   rw [<- hy] at c2
   have HX:=hid hx
   have HY:=hid hy
   have hpos : (0 : Int) <= j:=by omega
   clear h1 h2 h3 hx hy
   go_wp2
   go_region
   go_wp2
   go_roundw
   case rel =>
    obtain ⟨h1,h2,h3⟩:=hI.out
    have s1:=h2.store (i:=k) (by omega) y
    have s2:=s1.store (i:=j) (by omega) x
    rw [Nat.zero_add,Nat.zero_add] at s2
    refine ⟨k + 1,j - 1,(L.set k y).set j x,by omega,by omega,by go_num,by go_num,by omega,s2.drewN 1,?_⟩
    rw [HX.out,HY.out]
    exact zmz h1 hlt h2.len h3
   case measure=>simp [intOf];omega
  ·go_wp2
   go_end0
   obtain ⟨h1,h2,h3⟩:=hI.out
   exact ⟨rfl,h2.congr (zqy h1 (by omega) HL.out h2.len h3)⟩
def chr (d : Nat) : Nat:=if d < 10 then 48 + d else 87 + d
theorem zub {d : Nat} (h : d < 36) : chr d < 256:=by unfold chr;split <;> omega
def x7 : ByteArray:=⟨#[48,49,50,51,52,53,54,55,56,57,97,98,99,100,101,102,103,104,105,106,107,108,109,110,111,112,113,114,115,116,117,118,119,120,121,122]⟩
theorem zbw1 (d : Nat) (h : d < 36) : (x7[d]'h).toNat = chr d:=by
 have : ∀ d : Fin 36,(x7[d.1]'d.2).toNat = chr d.1:=by decide
 exact this ⟨d,h⟩
theorem zuc {l : List Nat} (h : Dg B32 l) (hl : l.length <= 40) : ∃ N,N <= 1280 /\ val B32 l < 2 ^ N:=by
 refine ⟨32 * l.length,by omega,?_⟩
 have:=zaa h
 rw [show B32 = 2 ^ 32 from rfl,<- Nat.pow_mul] at this
 exact this
theorem zna {v radix gk : Nat} (hr : 2 <= radix) (hv : v ≠ 0) (h : v < 2 ^ gk) : 1 <= gk /\ v / radix < 2 ^ (gk - 1):=by
 cases gk with
 | zero=>simp at h;omega
 | succ k =>
  refine ⟨by omega,?_⟩
  rw [Nat.add_sub_cancel,Nat.div_lt_iff_lt_mul (by omega)]
  rw [Nat.pow_succ] at h
  have : 2 ^ k * 2 <= 2 ^ k * radix:=Nat.mul_le_mul_left _ hr
  omega
theorem zkh {radix vD P v V : Nat} (h : vD + P * v = V) : vD + P * (v % radix) + P * radix * (v / radix) = V:=by
 rw [Nat.add_assoc,Nat.mul_assoc,<- Nat.mul_add,Nat.add_comm (v % radix),Nat.div_add_mod];exact h
def zud (w : World) (neg : Bool) (v : Nat) (radix : Nat) (e : Ending) (w' : World) : Prop :=
 ∃ s D,e = .returned (.tuple #[.string s,.int .i64 0]) /\ Dg radix D /\ Tr D /\ val radix D = v /\ bs s = (if neg then [45] else []) ++ (D.map chr).reverse /\ Below w.heap.size w w'
theorem zov {w : World} {g n cap : Nat} {cur : Array Value} {l : List Nat} (hW : Win .u8 5 w g 0 n cur l) (hd : Dg 256 l) :
  ∃ S : ByteArray,(convert 123 9 (.slice (some ⟨g,0,none⟩) n cap)).run Tryz.prog w = .ok (.string S) w /\ bs S = l:=by
 have hl:=hW.len
 have hu : (l.map UInt8.ofNat).map UInt8.toNat = l:=by
  rw [List.map_map]
  conv=>rhs;rw [<- List.map_id l]
  apply List.map_congr_left
  intro x hx
  have:=hd x hx
  simp only [Function.comp,id]
  rw [UInt8.toNat_ofNat']
  omega
 refine ⟨⟨(l.map UInt8.ofNat).toArray⟩,?_,?_⟩
 ·have := run_convert_bytes_back (P := Tryz.prog) w 123 9 5 ⟨g, 0, none⟩ cap (l.map UInt8.ofNat) Tryz.underlying123 Tryz.underlying5 Tryz.underlying9 (fun j hj => by
   rw [List.length_map,hl] at hj
   have h1:=hW.cell (i:=j) hj
   have h2 : (l.map UInt8.ofNat)[j].toNat = l.getD j 0:=by
    rw [List.getElem_map,List.getD_eq_getElem?_getD,List.getElem?_eq_getElem (by omega),UInt8.toNat_ofNat']
    have:=hd l[j] (List.getElem_mem _)
    simp only [Option.getD_some]
    omega
   rw [h2]
   unfold Addr.add
   by_cases h0 : j = 0
   ·subst h0;simpa using h1
   ·rw [if_neg h0];exact h1)
  rw [List.length_map,hl] at this
  exact this
 ·unfold bs;simpa using hu
set_option maxHeartbeats 2000000 in
theorem zue (neg : Bool) (ao : Option Addr) (n cap : Nat) (l : List Nat) (radix : Nat) (w : World) (R : Row .u32 B32 w ao n cap l) (g1 : jz neg l = true) (hr1 : 2 <= radix) (hr2 : radix <= 36) (h0 : n ≠ 0) :
  Calls Tryz.prog 160 #[.agg #[.bool neg,.slice ao n cap],.int .i64 radix] w (zud w neg (val B32 l) radix):=by
 have HR:=hid R
 have G1:=hid g1
 have hn40 : n <= 40:=by rw [<- R.len];exact zez g1
 have hmx:=R.most
 have hft:=R.fits
 unfold maxLen at hmx
 have e1 : ((n : Int) == 0) = false:=by simp;omega
 have HC : Hid (∀ wx,Calls Tryz.prog 183 #[.int .i64 radix] wx fun e w'=>e = .returned (.bool true) /\ w' = wx):=fun wx=>(xh radix wx).mono fun e w' ⟨h1,h2⟩=>⟨by rw [h1];simp;omega,h2⟩
 clear R g1
 go_enter Tryz.func160,Tryz.ntmps160
 go_wp2_with fail
 refine (HC.out _).mono ?_
 rintro e wx ⟨rfl,hwx⟩
 rw [hwx]
 clear hwx
 go_wp2_with fail
 refine (zep neg ao n cap l _ (HR.out.below (Ba _ _))).mono ?_
 rintro e w1 ⟨rfl,hb1⟩
 rw [G1.out]
 have X1:=hid ((Box.new 104 w neg ao n cap).on hb1)
 have HB1:=hid (Bt (Ba w (.cells #[.bool neg,.slice ao n cap] 104)) hb1)
 obtain ⟨c0,c1⟩:=X1.out.c
 clear hb1
 go_wp2_with fail
 refine (ztu ao n cap l w1 (HR.out.below HB1.out) (by omega)).mono ?_
 rintro e w2 ⟨ao2,cap2,rfl,hO,hb2⟩
 obtain ⟨g,cur,rfl,hg,hW⟩:=hO.own.resolve_left h0
 have X2:=hid (X1.out.on hb2)
 have HB2:=hid (Bt HB1.out hb2)
 have hgp : Hid (w.heap.size < g):=by have:=X1.out.lt;unfold Hid;omega
 have hg2 : Hid (g < w2.heap.size):=hW.lt
 have hdl:=hO.row.dg
 have hcf2:=hO.row.fits
 have hcm2:=hO.row.most
 have HW:=hid hW
 have HDL:=hid hdl
 unfold maxLen at hcm2
 clear c0 c1 hb2 hO hW hdl hg
 go_wp2
 obtain ⟨N,hN,hNv⟩:=zuc HDL.out (by rw [HR.out.len];exact hn40)
 have HNV:=hid hNv
 clear hNv
 go_loopg [6,7] N (fun gk t v wr=>∃ m c : Nat,∃ r D : List Nat,v = .slice (some ⟨g,0,none⟩) m c /\ m <= c /\ c <= cap2 /\ m <= 40 /\ D.length + gk <= N /\ Hid ((∃ cur',Win .u32 163 wr g 0 m cur' r) /\ Dg B32 r /\ Tr r /\ wr.ownsRow w2.heap.size 5 1 t D.length (cs .u8 (D.map chr)) /\ Dg radix D /\ (r = [] -> Tr D) /\ val radix D + radix ^ D.length * val B32 r = val B32 l /\ Box 104 wr w.heap.size neg ao n cap /\ Below w.heap.size w wr /\ w2.heap.size <= wr.heap.size /\ val B32 r < 2 ^ gk))
 case atStart =>
  refine ⟨n,cap2,l,[],rfl,hcf2,Nat.le_refl _,hn40,by simp,⟨cur,HW.out⟩,HDL.out,xw G1.out,World.ownsRow_nil _ _ _ _,Dg.nil _,fun h=>?_,by simp [val],X2.out,HB2.out,Nat.le_refl _,?_⟩
  ·exact absurd (by rw [<- HR.out.len,h];rfl) h0
  ·exact HNV.out
 case round =>
  obtain ⟨m,c,r,D,rfl,hmc,hcc,hm40,hDk,hI⟩:=hrel
  by_cases hm0 : m = 0
  ·subst hm0
   obtain ⟨⟨cur',hW'⟩,i2,i3,i4,i5,i6,i7,i8,i9,i10,i11⟩:=hI.out
   have hrn : r = []:=List.length_eq_zero_iff.1 hW'.len
   subst hrn
   have hDl : D.length ≠ 0:=by
    intro e
    have hD0 : D = []:=List.length_eq_zero_iff.1 e
    subst hD0
    simp [val] at i7
    exact (xw G1.out).ne_zero (B:=B32) (by decide) (fun e=>h0 (by rw [<- HR.out.len,e];rfl)) i7.symm
   have HTD:=hid (i6 rfl)
   have HVD : Hid (val radix D = val B32 l):=by have:=i7;simp [val] at this;exact this
   have HDD:=hid i5
   have HOW:=hid i4
   have HBX:=hid i8
   have HBL:=hid i9
   have HZ:=hid i10
   obtain ⟨c0,c1⟩:=HBX.out.c
   clear hI hW' i2 i3 i4 i5 i6 i7 i8 i9 i10 i11
   cases neg
   ·obtain ⟨g3, cap3, cur3, hu, hg3, hnc, hcm, hcs, hW3⟩ := zay HOW.out (by omega)
    subst hu
    have HW3:=hid hW3
    have HG3:=hid hg3
    have HD3 : Hid (Dg 256 (D.map chr)):=by
     intro x hx
     obtain ⟨y,hy,rfl⟩:=List.mem_map.1 hx
     exact zub (by have:=HDD.out y hy;omega)
    clear hW3 hg3
    go_wp2_with fail
    refine (zfg g3 D.length cap3 cur3 (D.map chr) wr HW3.out HD3.out (Nat.le_trans hnc hcm) (by omega)).mono ?_
    rintro e w3 ⟨rfl,hO⟩
    obtain ⟨cur4,hW4,_,_⟩:=hO.row
    obtain ⟨S,hS,hbS⟩:=zov (cap:=cap3) hW4 (by intro x hx;exact HD3.out x (by simpa using hx))
    have HBS:=hid hbS
    have HBE:=hid (HBL.out.trans (hO.below (Nat.le_trans HB2.out.size HG3.out)))
    clear hO hW4 hbS
    go_wp2
    go_ret2
    exact ⟨S,D,rfl,HDD.out,HTD.out,HVD.out,by rw [HBS.out];rfl,HBE.out⟩
   ·have HD3 : Hid (Dg 256 (D.map chr ++ [45])) := by
     refine Dg.append ?_ (Dg.one (by omega))
     intro x hx
     obtain ⟨y,hy,rfl⟩:=List.mem_map.1 hx
     exact zub (by have:=HDD.out y hy;omega)
    have hsw : Hid (w.heap.size <= wr.heap.size):=HBL.out.size
    go_wp2_with (at_builtin;refine app1 rfl _ _ 123 rfl w2.heap.size 5 .u8 1 (by decide) Tryz.underlying123 xg _ D.length (D.map chr) rfl (HOW.out.alloc _) ⟨wr.heap.size,0,none⟩ 1 45 rfl (yu _ _ _) (by omega) (by have:=HZ.out;simp;omega) ?_;intro g2 cap3 w4 hown hbel)
    obtain ⟨g3,cap4,cur3,hu,hg3,hnc,hcm,hcs,hW3⟩:=zay hown (by omega)
    cases hu
    have HBL4:=hid ((HBL.out.alloc hsw.out _).trans (hbel.mono HB2.out.size))
    clear hown hbel
    refine (zfg g2 (D.length + 1) cap3 cur3 (D.map chr ++ [45]) w4 hW3 HD3.out (Nat.le_trans hnc hcm) (by omega)).mono ?_
    rintro e w3 ⟨rfl,hO⟩
    obtain ⟨cur4,hW4,_,_⟩:=hO.row
    obtain ⟨S,hS,hbS⟩:=zov (cap:=cap3) hW4 (by intro x hx;exact HD3.out x (List.mem_reverse.1 hx))
    have HBS:=hid hbS
    have HBE:=hid (HBL4.out.trans (hO.below (Nat.le_trans HB2.out.size hg3)))
    clear hO hW4 hbS hW3
    go_wp2
    go_ret2
    exact ⟨S,D,rfl,HDD.out,HTD.out,HVD.out,by rw [HBS.out];simp,HBE.out⟩
  ·have e0 : decide ((0 : Int) < m) = true := by simp; omega
   obtain ⟨⟨cur',hW'⟩,i2,i3,i4,i5,i6,i7,i8,i9,i10,i11⟩:=hI.out
   have hlr:=hW'.len
   obtain ⟨d,hd⟩ : ∃ d,d = val B32 r % radix:=⟨_,rfl⟩
   have hdr : d < radix:=by rw [hd];exact Nat.mod_lt _ (by omega)
   have HDV : Hid (Calls Tryz.prog 186 #[.slice (some ⟨g,0,none⟩) m c,.int .u32 radix] wr fun e w'=>e = .returned (.int .u32 (d : Nat)) /\ ∃ l',Onto .u32 163 g 0 m wr w' cur' l' /\ Dg B32 l' /\ val B32 l' = val B32 r / radix):=by
    rw [hd];exact zka g 0 m c cur' r radix wr hW' i2 (by unfold maxLen;omega) (by omega) (by unfold B32;omega)
   have HD:=hid hd
   have I:=hid (And.intro i3 (And.intro i4 (And.intro i5 (And.intro i7 (And.intro i8 (And.intro i9 (And.intro i10 i11)))))))
   have HLR:=hid hlr
   clear hd hI hW' i2 i3 i4 i5 i6 i7 i8 i9 i10 i11 hlr
   go_wp2_with fail
   refine HDV.out.mono ?_
   rintro e w3 ⟨rfl,l',hO,hD',hV'⟩
   have HO:=hid hO
   have HD':=hid hD'
   have HV':=hid hV'
   have hsz3:=hid hO.size
   clear hO hD' hV'
   have hbig3 : Hid (w2.heap.size <= w3.heap.size):=by unfold Hid;rw [hsz3.out];exact I.out.2.2.2.2.2.2.1
   have hdt:=zbw1 d (by omega)
   have HDT : Hid (∀ h,(x7[d]'h).toNat = chr d):=fun h=>zbw1 d (by omega)
   have HOT:=hid (zyq I.out.2.1 hg2.out HO.out)
   clear hdt
   go_wp2_with (at_builtin;refine app1 rfl _ _ 123 rfl w2.heap.size 5 .u8 1 (by decide) Tryz.underlying123 xg _ D.length (D.map chr) rfl (HOT.out.alloc _) ⟨w3.heap.size,0,none⟩ 1 (chr d) rfl ?c1 (by omega) (by have:=hbig3.out;simp;omega) ?_;rotate_right;intro g2 cap3 w4 hown hbel)
   case c1=>exact (yu _ _ _).trans (congrArg (fun z : Nat=>some (Value.int .u8 z)) (HDT.out _))
   obtain ⟨cur3,hW3,_,_⟩:=HO.out.row
   have hW4:=(hW3.below (Ba w3 _)).on hbel hg2.out
   have hbw : Below w.heap.size w w4:=((I.out.2.2.2.2.2.1.trans (HO.out.below (Nat.le_of_lt hgp.out))).alloc (by have:=hbig3.out;have:=HB2.out.size;omega) _).trans (hbel.mono HB2.out.size)
   have hbx : Box 104 w4 w.heap.size neg ao n cap:=((show Box 104 w3 w.heap.size neg ao n cap from (HO.out.block _ (by have:=hgp.out;omega)).trans I.out.2.2.2.2.1).alloc _).below hbel (by have:=hgp.out;have:=hg2.out;omega)
   have HW4:=hid hW4
   have HBW:=hid hbw
   have HBX:=hid hbx
   have HOWN:=hid hown
   have hsz4 : Hid (w2.heap.size <= w4.heap.size):=by have:=hbel.size;have:=hbig3.out;unfold Hid;simp at *;omega
   clear hW3 hW4 hbw hbx hown hbel
   have hRow : Row .u32 B32 w4 (some ⟨g,0,none⟩) m c l':=⟨HW4.out.len,hmc,by unfold maxLen;omega,fun h=>(by cases h),HD'.out,HW4.out.rd⟩
   refine (zot (some ⟨g,0,none⟩) m c l' w4 hRow).mono ?_
   rintro e w5 ⟨m',hm',rfl,hw5,ht5,hv5⟩
   rw [hw5]
   have HT5:=hid ht5
   have HV5:=hid hv5
   clear hw5 ht5 hv5 hRow
   go_wp2
   go_roundg (gk - 1)
   case measure =>
    have h1:=I.out.1.ne_zero (B:=B32) (by decide) (fun e=>hm0 (by rw [<- HLR.out,e];rfl))
    have:=(zna hr1 h1 I.out.2.2.2.2.2.2.2).1
    omega
   case rel =>
    have hne:=I.out.1.ne_zero (B:=B32) (by decide) (fun e=>hm0 (by rw [<- HLR.out,e];rfl))
    have hhalf:=zna hr1 hne I.out.2.2.2.2.2.2.2
    refine ⟨m',m',l'.take m',D ++ [d],rfl,Nat.le_refl _,by omega,by omega,by simp;omega,⟨_,HW4.out.take hm'⟩,HD'.out.take m',HT5.out,?_,I.out.2.2.1.append (Dg.one hdr),?_,?_,HBX.out,HBW.out,hsz4.out,?_⟩
    ·have := HOWN.out
     rw [List.length_append,List.map_append]
     exact this
    ·intro hnil
     refine zff fun hd0=>?_
     have h1 : val B32 l' = 0:=by rw [<- HV5.out,hnil];rfl
     rw [HV'.out] at h1
     have h2:=Nat.div_add_mod (val B32 r) radix
     rw [h1,<- HD.out,hd0] at h2
     simp at h2
     omega
    ·rw [xv, List.length_append, HV5.out, HV'.out, HD.out]
     show val radix D + radix ^ D.length * (val B32 r % radix) + radix ^ (D.length + 1) * (val B32 r / radix) = _
     rw [Nat.pow_succ]
     exact zkh I.out.2.2.2.1
    ·rw [HV5.out,HV'.out];exact hhalf.2
def sgn (neg : Bool) (v : Nat) : Int:=if neg then - (v : Int) else v
theorem zcr : ∀ {a b : List UInt8},a.map UInt8.toNat = b.map UInt8.toNat -> a = b
 | [],[],_=>rfl
 | [],_ :: _,h=>by simp at h
 | _ :: _,[],h=>by simp at h
 | x :: a,y :: b,h=>by
  simp only [List.map_cons,List.cons.injEq] at h
  rw [UInt8.toNat_inj.1 h.1,zcr h.2]
def zfz1 (w : World) (neg : Bool) (v : Nat) (radix : Nat) (e : Ending) (w' : World) : Prop :=
 ∃ s D,e = .returned (.tuple #[.string s,.int .i64 0]) /\ Dg radix D /\ Tr D /\ val radix D = v /\ bs s = (if D = [] then [48] else (if neg then [45] else []) ++ (D.map chr).reverse) /\ Below w.heap.size w w'
theorem zyu (a d : Nat) (h1 : a < 36) (h2 : d < 256) : bits .or .i64 ((a : Int) * 256) (d : Int) = ((a * 256 + d : Nat) : Int):=by
 rw [show ((a : Int) * 256) = ((a * 256 : Nat) : Int) by omega]
 have h3 : (BitVec.ofInt 64 ((a * 256 : Nat) : Int)).toNat = a * 256:=by
  rw [BitVec.ofInt_natCast,BitVec.toNat_ofNat];exact Nat.mod_eq_of_lt (by omega)
 have h4 : (BitVec.ofInt 64 ((d : Nat) : Int)).toNat = d:=by
  rw [BitVec.ofInt_natCast,BitVec.toNat_ofNat];exact Nat.mod_eq_of_lt (by omega)
 show IntKind.i64.wrap ((BitVec.ofInt 64 ((a * 256 : Nat) : Int) ||| BitVec.ofInt 64 (d : Int)).toNat : Int) = _
 rw [BitVec.toNat_or,h3,h4,nat_join 8 _ _ (by omega) (by omega),IntKind.wrap_i64]
 omega
theorem zyv (d : Nat) (h : d < 36) : bs (x7.extract d (d + 1)) = [chr d]:=by
 have : ∀ d : Fin 36,bs (x7.extract d.1 (d.1 + 1)) = [chr d.1]:=by decide
 exact this ⟨d,h⟩
theorem zki (s t : ByteArray) : bs (s ++ t) = bs s ++ bs t:=by
 unfold bs;simp
theorem zqz {l : List Nat} (h : Dg 256 l) (hl : l.length <= 160) : ∃ N,N <= 1280 /\ val 256 l < 2 ^ N:=by
 refine ⟨8 * l.length,by omega,?_⟩
 have:=zaa h
 rw [show 256 = 2 ^ 8 from rfl,<- Nat.pow_mul] at this
 exact this
set_option maxRecDepth 100000 in
set_option maxHeartbeats 4000000 in
theorem zra (neg : Bool) (ao : Option Addr) (n cap : Nat) (l : List Nat) (radix : Nat) (w : World) (R : Row .u32 B32 w ao n cap l) (hn40 : n <= 40) (hr1 : 2 <= radix) (hr2 : radix <= 36) :
  Calls Tryz.prog 81 #[.agg #[.bool neg,.slice ao n cap],.int .i64 radix] w (zfz1 w neg (val B32 l) radix):=by
 have HR:=hid R
 clear R
 have e1 : decide ((radix : Int) < 2) = false:=by simp;omega
 have e2 : decide ((36 : Int) < radix) = false:=by simp;omega
 go_enter Tryz.func81,Tryz.ntmps81
 go_wp2_with fail
 have X0:=Box.new 104 w neg ao n cap
 have hb0:=Ba w (.cells #[.bool neg,.slice ao n cap] 104)
 have hsz0:=zb w (.cells #[.bool neg,.slice ao n cap] 104)
 generalize w.alloc (.cells #[.bool neg,.slice ao n cap] 104) = W0 at *
 refine (ztv neg ao n cap l W0 (HR.out.below hb0) (by omega)).mono ?_
 rintro e w1 ⟨m1,ao1,cap1,l1,rfl,hm1,hO1,ht1,hv1,b1⟩
 rw [hsz0] at hO1
 have X1:=hid (X0.on b1)
 have HB1:=hid (Bt hb0 b1)
 have HO1:=hid hO1
 have HT1:=hid ht1
 have HV1:=hid hv1
 clear X0 hb0 hsz0 hO1 ht1 hv1 b1
 obtain ⟨N,hN,hNv⟩:=zqz HO1.out.row.dg (by rw [HO1.out.row.len];omega)
 have HNV:=hid hNv
 clear hNv
 go_wp2
 go_loopg [6,7,8,9] N (fun gk b s _ _ wr=>∃ m c : Nat,∃ ad : Option Addr,∃ r D : List Nat,∃ S : ByteArray,b = .slice ad m c /\ s = .string S /\ m <= 160 /\ c <= maxLen /\ D.length + gk <= N /\ Hid (Own .u8 5 256 (w.heap.size + 1) wr ad m c r /\ Tr r /\ bs S = (D.map chr).reverse /\ Dg radix D /\ (r = [] -> Tr D) /\ val radix D + radix ^ D.length * val 256 r = val B32 l /\ Box 104 wr w.heap.size neg ao n cap /\ Below w.heap.size w wr /\ val 256 r < 2 ^ gk))
 case atStart =>
  exact ⟨m1,cap1,ao1,l1,[],⟨#[]⟩,rfl,rfl,by omega,HO1.out.row.most,by simp,HO1.out,HT1.out,rfl,Dg.nil _,fun _=>Tr.nil,by simp [val];exact HV1.out,X1.out,HB1.out,HNV.out⟩
 case round =>
  obtain ⟨m,c,ad,r,D,S,rfl,rfl,hm,hc,hDk,hI⟩:=hrel
  unfold maxLen at hc
  obtain ⟨i1,i2,i3,i4,i5,i6,i7,i8,i9⟩:=hI.out
  clear hI
  by_cases hm0 : m = 0
  ·subst hm0
   have hrn : r = []:=List.length_eq_zero_iff.1 i1.row.len
   subst hrn
   have HT:=hid (i5 rfl)
   have HV : Hid (val radix D = val B32 l):=by have:=i6;simp [val] at this;exact this
   have HDg:=hid i4
   have HBS:=hid i3
   have HBL:=hid i8
   have HBX:=hid i7
   obtain ⟨c0,c1⟩:=HBX.out.c
   clear i1 i2 i3 i4 i5 i6 i7 i8 i9
   by_cases hD : D = []
   ·subst hD
    have hem : S.toList.isEmpty = true:=by rw [qh];have:=HBS.out;rw [<- zl,this];rfl
    go_wp2
    go_ret2
    exact ⟨_,[],rfl,Dg.nil _,Tr.nil,HV.out,by rw [if_pos rfl];rfl,HBL.out⟩
   ·have hem : S.toList.isEmpty = false := by
     rw [qh,<- zl,HBS.out];simp [hD]
    cases neg
    ·go_wp2
     go_ret2
     exact ⟨S,D,rfl,HDg.out,HT.out,HV.out,by rw [HBS.out,if_neg hD];rfl,HBL.out⟩
    ·have hSz : S.size <= 1280 := by rw [<- zl, HBS.out]; simp; omega
     have hcat : ¬ 9223372036854775807 < 1 + S.size:=by omega
     go_wp2
     go_ret2
     exact ⟨_,D,rfl,HDg.out,HT.out,HV.out,by rw [if_neg hD,zki,HBS.out];rfl,HBL.out⟩
  ·have e0 : decide ((0 : Int) < m) = true := by simp; omega
   obtain ⟨g,cur,hu,hg,hW⟩:=i1.own.resolve_left hm0
   subst hu
   have HG:=hid hg
   have HW:=hid hW
   have HDr:=hid i1.row.dg
   have HLr:=hid i1.row.len
   have hcf:=i1.row.fits
   have I:=hid (And.intro i2 (And.intro i3 (And.intro i4 (And.intro i6 (And.intro i7 (And.intro i8 i9))))))
   clear i1 i2 i3 i4 i5 i6 i7 i8 i9 hg hW
   obtain ⟨wo,hwo⟩ : ∃ wo : World,Hid (wo = wr):=⟨_,rfl⟩
   go_wp2
   go_loopw [8,9] (fun t i wx=>∃ j rr : Nat,∃ q : List Nat,j <= m /\ i = .int .i64 ((j : Int) - 1) /\ t = .int .i64 rr /\ rr < radix /\ Hid (q.length = m - j /\ Dg 256 q /\ val 256 (r.drop j) = val 256 q * radix + rr /\ Onto .u8 5 g 0 m wo wx cur (r.take j ++ q))) (fun _ i _=>(intOf i + 1).toNat)
   case atStart=>exact ⟨m,0,[],Nat.le_refl _,rfl,rfl,by omega,by simp,Dg.nil _,by rw [List.drop_eq_nil_of_le (by rw [HLr.out];omega)];simp [val],by
    rw [List.take_of_length_le (by rw [HLr.out];omega),List.append_nil,hwo.out];exact HW.out.onto⟩
   case round =>
    obtain ⟨j,rr,q,hj,rfl,rfl,hrr,hH⟩:=hrel
    by_cases hz : j = 0
    ·subst hz
     obtain ⟨h1,h2,h3,h4⟩:=hH.out
     rw [List.take_zero,List.nil_append] at h4
     rw [List.drop_zero] at h3
     have HQL:=hid h1
     have HQD:=hid h2
     have HQV:=hid h3
     have HQO:=hid h4
     have HRow : Hid (Row .u8 256 wr (some ⟨g,0,none⟩) m c q):=by
      obtain ⟨cur2,hW2,_,_⟩:=h4.row
      exact ⟨hW2.len,hcf,by unfold maxLen;omega,fun h=>(by cases h),h2,hW2.rd⟩
     have hb' : Below (w.heap.size + 1) wo wr:=h4.below HG.out
     have HBX:=hid ((show Box 104 wo w.heap.size neg ao n cap by rw [hwo.out];exact I.out.2.2.2.2.1).below hb' (Nat.lt_succ_self _))
     have HBL:=hid ((show Below w.heap.size w wo by rw [hwo.out];exact I.out.2.2.2.2.2.1).trans (hb'.mono (Nat.le_succ _)))
     have hszr : Hid (w.heap.size + 1 <= wr.heap.size):=HBX.out.lt
     clear h1 h2 h3 h4 hb' hH
     go_wp2_with fail
     refine (zfc (some ⟨g,0,none⟩) m c q wr HRow.out (by omega)).mono ?_
     rintro e w3 ⟨m',ao',cap',hm',rfl,hO',ht',hv',b3⟩
     have HO':=hid (hO'.base hszr.out)
     have HT':=hid ht'
     have HV':=hid hv'
     have HBX3:=hid (HBX.out.on b3)
     have HBL3:=hid (Bt HBL.out b3)
     have hdt:=zyv rr (by omega)
     have HDT:=hid hdt
     have hSz : S.size <= 1280:=by rw [<- zl,I.out.2.1];simp;omega
     have hcat : ¬ 9223372036854775807 < min (rr + 1) 36 - rr + S.size:=by omega
     clear hO' ht' hv' b3 hdt
     go_wp2
     have hne:=I.out.1.ne_zero (B:=256) (by decide) (fun e=>hm0 (by rw [<- HLr.out,e];rfl))
     have hhalf:=zna hr1 hne I.out.2.2.2.2.2.2
     have hvq : val 256 q = val 256 r / radix:=by
      rw [HQV.out,Nat.mul_comm,Nat.mul_add_div (by omega),Nat.div_eq_of_lt hrr,Nat.add_zero]
     have hrq : rr = val 256 r % radix:=by
      rw [HQV.out,Nat.mul_comm,Nat.mul_add_mod,Nat.mod_eq_of_lt hrr]
     go_roundg (gk - 1)
     case measure=>have:=hhalf.1;omega
     case rel =>
      refine ⟨m',cap',ao',q.take m',D ++ [rr],_,rfl,rfl,by omega,HO'.out.row.most,by simp;omega,HO'.out,HT'.out,?_,I.out.2.2.1.append (Dg.one hrr),?_,?_,HBX3.out,HBL3.out,?_⟩
      ·have h5 := HDT.out
       unfold x7 at h5
       rw [zki,h5,I.out.2.1];simp
      ·intro hnil
       refine zff fun hd0=>?_
       have h1 : val 256 q = 0:=by rw [<- HV'.out,hnil];rfl
       have h2:=HQV.out
       rw [h1,hd0] at h2
       simp at h2
       exact hne h2
      ·rw [xv, List.length_append, HV'.out, hvq]
       show val radix D + radix ^ D.length * rr + radix ^ (D.length + 1) * (val 256 r / radix) = _
       rw [Nat.pow_succ,hrq]
       exact zkh I.out.2.2.2.1
      ·rw [HV'.out,hvq];exact hhalf.2
    ·obtain ⟨p, rfl⟩ : ∃ p, j = p + 1 := ⟨j - 1, by omega⟩
     obtain ⟨d,hd⟩ : ∃ d,d = r.getD p 0:=⟨_,rfl⟩
     have hll : p < r.length:=by rw [HLr.out];omega
     have hdb : d < 256:=by rw [hd];exact HDr.out.getD _ hll
     have hc : wr.cell? ⟨g,p,none⟩ = some (.int .u8 d):=by
      have:=hH.out.2.2.2.cell (i:=p) (by omega)
      rw [fs (by rw [List.length_take];omega),zcn (by omega),<- hd,Nat.zero_add] at this
      exact this
     have hf : wr.frozen? ⟨g,p,none⟩ = false:=hH.out.2.2.2.frozen _
     have H1:=hid hd
     have HP:=hid hll
     clear hd hll
     have hor:=zyu rr d (by omega) hdb
     obtain ⟨t,ht⟩ : ∃ t,t = rr * 256 + d:=⟨_,rfl⟩
     rw [<- ht] at hor
     obtain ⟨Q,hQ⟩ : ∃ Q,Q = t / radix:=⟨_,rfl⟩
     have hQ2 : (t : Int).tdiv radix = (Q : Int):=by rw [hQ];rfl
     have hR2 : (t : Int).tmod radix = ((t % radix : Nat) : Int):=rfl
     have hRv : t % radix < radix:=Nat.mod_lt _ (by omega)
     have hQb : Q < 256:=by
      rw [hQ,Nat.div_lt_iff_lt_mul (by omega)]
      have : (rr + 1) * 256 <= radix * 256:=Nat.mul_le_mul_right _ hrr
      rw [Nat.add_mul] at this
      rw [Nat.mul_comm 256 radix]
      omega
     have HT:=hid ht
     have HQ:=hid hQ
     have htb : t < 10000:=by omega
     clear ht hQ
     go_wp2
     obtain ⟨h1,h2,h3,h4⟩:=hH.out
     refine ⟨⟨p,t % radix,Q :: q,by omega,rfl,rfl,hRv,?_,?_,?_,?_⟩,by simp [intOf] <;> omega⟩
     ·simp [h1];omega
     ·exact fun x hx=>by rcases List.mem_cons.1 hx with rfl | hx;exact hQb;exact h2 x hx
     ·rw [ztx (by omega) p r HP.out h3 hrr,<- H1.out,qx,<- HT.out,<- HQ.out]
     ·rw [<- zad HP.out]
      have:=h4.store (i:=p) (by omega) Q
      rw [Nat.zero_add] at this
      exact this
theorem Tr.tail {a : Nat} {t : List Nat} (h : Tr (a :: t)) : Tr t:=by
 cases t with
 | nil=>exact .inl rfl
 | cons c t =>
  rcases h with h | h
  ·cases h
  ·refine .inr ?_
   simpa using h
theorem g9 {B : Nat} (hB : 1 < B) : ∀ {D D' : List Nat},Dg B D -> Dg B D' -> Tr D -> Tr D' -> val B D = val B D' -> D = D'
 | [],[],_,_,_,_,_=>rfl
 | [],b :: t',_,_,_,h4,h=>by
  have:=h4.ne_zero (B:=B) (by omega) (by simp)
  exact absurd h.symm this
 | a :: t,[],_,_,h3,_,h=>by
  have:=h3.ne_zero (B:=B) (by omega) (by simp)
  exact absurd h this
 | a :: t, b :: t', h1, h2, h3, h4, h => by
  have ha : a < B:=h1 a (by simp)
  have hb : b < B:=h2 b (by simp)
  rw [qx,qx] at h
  have e1 : a = b:=by
   have:=congrArg (· % B) h
   simp only [Nat.add_mul_mod_self_left] at this
   rwa [Nat.mod_eq_of_lt ha,Nat.mod_eq_of_lt hb] at this
  subst e1
  have e2 : val B t = val B t':=Nat.eq_of_mul_eq_mul_left (show 0 < B by omega) (by omega)
  rw [g9 hB (fun x hx=>h1 x (by simp [hx])) (fun x hx=>h2 x (by simp [hx])) h3.tail h4.tail e2]
theorem zuf {s t : ByteArray} (h : bs s = bs t) : s = t:=by
 cases s with | mk a=>cases t with | mk b =>
 have : a.toList = b.toList:=zcr h
 rw [Array.toList_inj.1 this]
def znb (neg : Bool) (v : Nat) (radix : Int) (s : ByteArray) (en : Int) : Prop :=
 (¬ (2 <= radix /\ radix <= 36) /\ bs s = [] /\ en = 1) \/
 ((2 <= radix /\ radix <= 36) /\ en = 0 /\ ∃ D,Dg radix.toNat D /\ Tr D /\ val radix.toNat D = v /\ bs s = (if D = [] then [48] else (if neg then [45] else []) ++ (D.map chr).reverse))
def zbx1 (w : World) (neg : Bool) (v : Nat) (radix : Int) (e : Ending) (w' : World) : Prop:=∃ s en,e = .returned (.tuple #[.string s,.int .i64 en]) /\ znb neg v radix s en /\ Below w.heap.size w w'
set_option maxHeartbeats 2000000 in
theorem zkj (neg : Bool) (ao : Option Addr) (n cap : Nat) (l : List Nat) (radix : Int) (w : World) (R : Row .u32 B32 w ao n cap l) (g1 : jz neg l = true) :
  Calls Tryz.prog 160 #[.agg #[.bool neg,.slice ao n cap],.int .i64 radix] w (zbx1 w neg (val B32 l) radix):=by
 by_cases hr : 2 <= radix /\ radix <= 36
 ·obtain ⟨rx, rfl⟩ := Int.eq_ofNat_of_zero_le (by omega : 0 <= radix)
  by_cases h0 : n = 0
  ·subst h0
   have HC : Hid (∀ wx,Calls Tryz.prog 183 #[.int .i64 rx] wx fun e w'=>e = .returned (.bool true) /\ w' = wx):=fun wx=>(xh rx wx).mono fun e w' ⟨h1,h2⟩=>⟨by rw [h1];simp;omega,h2⟩
   have hl : l = []:=List.length_eq_zero_iff.1 R.len
   subst hl
   have HR:=hid R
   have G1:=hid g1
   have HRX:=hid hr
   clear R g1 hr
   go_enter Tryz.func160,Tryz.ntmps160
   go_wp2_with fail
   refine (HC.out _).mono ?_
   rintro e wx ⟨rfl,hwx⟩
   rw [hwx]
   clear hwx
   go_wp2_with fail
   refine (zep neg ao 0 cap [] _ (HR.out.below (Ba _ _))).mono ?_
   rintro e w1 ⟨rfl,hb1⟩
   rw [G1.out]
   have X1:=hid ((Box.new 104 w neg ao 0 cap).on hb1)
   have HB1:=hid (Bt (Ba w (.cells #[.bool neg,.slice ao 0 cap] 104)) hb1)
   obtain ⟨c0,c1⟩:=X1.out.c
   clear hb1
   go_wp2
   go_ret2
   exact ⟨_,_,rfl,.inr ⟨HRX.out,rfl,[],Dg.nil _,Tr.nil,rfl,by rw [if_pos rfl];rfl⟩,HB1.out⟩
  ·refine (zue neg ao n cap l rx w R g1 (by omega) (by omega) h0).mono fun e w' ⟨s, D, h1, h2, h3, h4, h5, h6⟩ => ⟨s, 0, h1, .inr ⟨hr, rfl, D, h2, h3, h4, ?_⟩, h6⟩
   have hD : D ≠ []:=by
    intro e
    subst e
    have:=(xw g1).ne_zero (B:=B32) (by decide) (fun e=>h0 (by rw [<- R.len,e];rfl))
    exact this h4.symm
   rw [h5,if_neg hD]
 ·have HC : Hid (∀ wx, Calls Tryz.prog 183 #[.int .i64 radix] wx fun e w' => e = .returned (.bool false) /\ w' = wx) := fun wx => (xh radix wx).mono fun e w' ⟨h1, h2⟩ => ⟨by rw [h1]; simp; omega, h2⟩
  have HR:=hid hr
  clear hr R g1
  go_enter Tryz.func160,Tryz.ntmps160
  go_wp2_with (go_at_call 183;refine (HC.out _).mono ?_;rintro e wx ⟨rfl,hwx⟩;rw [hwx];clear hwx)
  go_ret2
  exact ⟨_,_,rfl,.inl ⟨HR.out,rfl,rfl⟩,Ba _ _⟩
set_option maxHeartbeats 2000000 in
theorem zrb (neg : Bool) (ao : Option Addr) (n cap : Nat) (l : List Nat) (radix : Int) (w : World) (R : Row .u32 B32 w ao n cap l) (hn : n <= 40) :
  Calls Tryz.prog 81 #[.agg #[.bool neg,.slice ao n cap],.int .i64 radix] w (zbx1 w neg (val B32 l) radix):=by
 by_cases hlo : radix < 2
 ·have e1 : decide (radix < 2) = true := by simp [hlo]
  have HN : Hid (¬ (2 <= radix /\ radix <= 36)):=fun h=>by omega
  clear R
  go_enter Tryz.func81,Tryz.ntmps81
  go_wp2
  go_ret2
  exact ⟨_,_,rfl,.inl ⟨HN.out,rfl,rfl⟩,Ba _ _⟩
 by_cases hhi : 36 < radix
 ·have e1 : decide (radix < 2) = false := by simp; omega
  have e2 : decide (36 < radix) = true:=by simp [hhi]
  have HN : Hid (¬ (2 <= radix /\ radix <= 36)):=fun h=>by omega
  clear R
  go_enter Tryz.func81,Tryz.ntmps81
  go_wp2
  go_ret2
  exact ⟨_,_,rfl,.inl ⟨HN.out,rfl,rfl⟩,Ba _ _⟩
 obtain ⟨rx,rfl⟩:=Int.eq_ofNat_of_zero_le (by omega : 0 <= radix)
 exact (zra neg ao n cap l rx w R hn (by omega) (by omega)).mono fun e w' ⟨s,D,h1,h2,h3,h4,h5,h6⟩=>⟨s,0,h1,.inr ⟨by omega,rfl,D,h2,h3,h4,h5⟩,h6⟩
end Go.Proofs.YticimejfjjmikaaGreatDoor
