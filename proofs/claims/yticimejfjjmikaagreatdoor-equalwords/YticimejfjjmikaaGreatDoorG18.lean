import Derived.Test.YticimejfjjmikaaGreatDoorG16
import Derived.Deep.LoopGhost
set_option linter.unusedVariables false
set_option linter.unusedSimpArgs false
namespace Go.Proofs.YticimejfjjmikaaGreatDoor
open Go.RowKit
theorem owns_take {w : World} {base : Nat} {e : TypeId} {g n m cap : Nat} {xs : List Value} (h : w.ownsRow base e 1 (.slice (some ⟨g,0,none⟩) n cap) n xs) (hm : m <= n) : w.ownsRow base e 1 (.slice (some ⟨g,0,none⟩) m cap) m (xs.take m):=by
 have hl:=h.1
 refine ⟨by rw [List.length_take,hl];omega,?_⟩
 rcases h.2 with ⟨h0,_⟩ | ⟨g',cap',cur,h1,h2,h3,h4,h5,h6,h7⟩
 ·cases h0
 ·cases h1
  refine .inr ⟨g,cap,cur,rfl,h2,h3,by omega,h5,h6,?_⟩
  rw [<- h7,List.take_take];congr 1;omega
theorem owns_cell {w : World} {base : Nat} {g n cap i : Nat} {l : List Int} (h : w.ownsRow base 3 1 (.slice (some ⟨g,0,none⟩) n cap) n (cz l)) (hi : i < l.length) : w.cell? ⟨g,i,none⟩ = some (.int .i64 (l.getD i 0)):=by
 have hl:=h.1
 rw [cz_length] at hl
 rcases h.2 with ⟨h0,_⟩ | ⟨g',cap',cur,h1,h2,h3,h4,h5,h6,h7⟩
 ·cases h0
 ·cases h1
  rw [blk_cell h3,<- Array.getElem?_toList]
  have:=cz_get hi
  rw [<- h7,List.getElem?_take,if_pos (by omega)] at this
  exact this
set_option maxHeartbeats 4000000 in
theorem follow_any (base : Nat) (w0 w : World) (B0 gp Bm : Nat) (an : Option Addr) (nn cn : Nat) (ar : Option Addr) (nr cr : Nat) (ns : List Nd) (rs pl ord : List Int) (vo : Value) (root : Int) (f : Nat) (hnn : nn <= 2500) (hf : f <= 400000) (hb : base = w0.heap.size)
  (G : GIs w0 an nn cn ar nr cr ns rs) (W : WCore base w0 w B0 gp Bm an nn cn ar nr cr pl ord vo) (M : MapIs w Bm ns ord) (hF : Fv ns nn [root] pl ord f) :
  Calls Tryz.prog 78 #[.pointer (some ⟨B0,0,none⟩),.int .i64 root] w fun e w'=>e = .returned (.tuple #[]) /\ ∃ vo',WCore base w0 w' B0 gp Bm an nn cn ar nr cr (followS ns f [root] pl ord).1 (followS ns f [root] pl ord).2 vo' /\ MapIs w' Bm ns (followS ns f [root] pl ord).2 /\ w.heap.size <= w'.heap.size:=by
 have HW:=hid W
 have HG:=hid G
 have HM:=hid M
 have HF:=hid hF
 have hroot:=hF.rng root (by simp)
 clear W G M hF
 go_enter Tryz.func78,Tryz.ntmps78
 go_wp2_with fail
 have bA:=Ba w (.cells #[.int .i64 root] 3)
 have hown0 : (w.alloc (.cells #[.int .i64 root] 3)).ownsRow base 3 1 (.slice (some ⟨w.heap.size,0,none⟩) 1 1) 1 (cz [root]) :=
  ⟨rfl,.inr ⟨w.heap.size,1,#[.int .i64 root],rfl,HW.out.base_le,blk_new _ _ _,by omega,by unfold maxLen;omega,rfl,rfl⟩⟩
 have HST : Hid (([root] : List Int).length = 1 /\ (w.alloc (.cells #[.int .i64 root] 3)).ownsRow base 3 1 (.slice (some ⟨w.heap.size,0,none⟩) 1 1) 1 (cz [root]) /\ WCore base w0 (w.alloc (.cells #[.int .i64 root] 3)) B0 gp Bm an nn cn ar nr cr pl ord vo /\ MapIs (w.alloc (.cells #[.int .i64 root] 3)) Bm ns ord /\ Fv ns nn ([root] : List Int).reverse pl ord f /\ followS ns f ([root] : List Int).reverse pl ord = followS ns f [root] pl ord /\
   (w.heap.size ≠ B0 /\ w.heap.size ≠ gp /\ w.heap.size ≠ Bm /\ vo.ownBlock ≠ some w.heap.size) /\ w.heap.size <= (w.alloc (.cells #[.int .i64 root] 3)).heap.size):=by
  refine ⟨rfl,hown0,HW.out.on bA,HM.out.frame (bA.block Bm HM.out.lt),HF.out,rfl,⟨?_,?_,?_,?_⟩,bA.size⟩
  ·have:=HW.out.lt;omega
  ·have:=HW.out.places.lt;omega
  ·have:=HM.out.lt;omega
  ·intro e;have:=(HW.out.own_lt e).1;omega
 obtain ⟨g0,hg0⟩ : ∃ g,g = w.heap.size:=⟨_,rfl⟩
 rw [<- hg0]
 rw [<- hg0] at HST
 generalize w.alloc (.cells #[.int .i64 root] 3) = W1 at *
 clear bA hown0
 have hwl : Hid (w.heap.size = g0):=hg0.symm
 clear hg0
 go_loopg [4] (f + 1) (fun gk v wr=>∃ (g n cap : Nat) (stk pl' ord' : List Int) (vo' : Value) (f' : Nat),v = .slice (some ⟨g,0,none⟩) n cap /\ n <= 400000 /\ n <= cap /\ cap <= 9223372036854775807 /\ f' < gk /\ Hid (stk.length = n /\ wr.ownsRow base 3 1 (.slice (some ⟨g,0,none⟩) n cap) n (cz stk) /\ WCore base w0 wr B0 gp Bm an nn cn ar nr cr pl' ord' vo' /\ MapIs wr Bm ns ord' /\ Fv ns nn stk.reverse pl' ord' f' /\ followS ns f' stk.reverse pl' ord' = followS ns f [root] pl ord /\
   (g ≠ B0 /\ g ≠ gp /\ g ≠ Bm /\ vo'.ownBlock ≠ some g) /\ g0 <= wr.heap.size) /\ f' <= 400000)
 case atStart=>exact ⟨g0,1,1,[root],pl,ord,vo,f,rfl,by omega,by omega,by omega,by omega,HST,hf⟩
 case round =>
  obtain ⟨g,n,cap,stk,pl',ord',vo',f',rfl,hn,hnc,hcap,hfg,hI,hfb⟩:=hrel
  obtain ⟨gk',rfl⟩ : ∃ k,gk = k + 1:=⟨gk - 1,by omega⟩
  by_cases hn0 : n = 0
  ·subst hn0
   have hs0 : stk = []:=List.length_eq_zero_iff.1 hI.out.1
   obtain ⟨h1,h2,h3,h4,h5,h6,h7,h8⟩:=hI.out
   rw [hs0] at h6
   have h9 : followS ns f' ([] : List Int).reverse pl' ord' = (pl',ord'):=by cases f' <;> rfl
   rw [h9] at h6
   have H3:=hid h3
   have H4:=hid h4
   have H6:=hid h6
   have H8:=hid h8
   clear h1 h2 h3 h4 h5 h6 h7 h8 h9 hI hs0
   go_wp2_with fail
   go_end0
   exact ⟨rfl,vo',by rw [<- H6.out];exact H3.out,by rw [<- H6.out];exact H4.out,by rw [hwl.out];exact H8.out⟩
  ·obtain ⟨h1, h2, h3, h4, h5, h6, h7, h8⟩ := hI.out
   obtain ⟨stk0,o,rfl⟩ : ∃ s0 o,stk = s0 ++ [o]:=⟨stk.dropLast,stk.getLast (by rintro rfl;simp at h1;omega),(List.dropLast_concat_getLast _).symm⟩
   obtain ⟨m,rfl⟩ : ∃ m,n = m + 1:=⟨n - 1,by omega⟩
   have hm : stk0.length = m:=by simpa using h1
   rw [List.reverse_append,List.reverse_singleton,List.singleton_append] at h5 h6
   obtain ⟨ho0,ho1⟩:=h5.rng o (by simp)
   obtain ⟨on,rfl⟩:=Int.eq_ofNat_of_zero_le ho0
   have hon : on < nn:=by omega
   obtain ⟨f'',rfl⟩ : ∃ k,f' = k + 1:=⟨f' - 1,by have:=h5.fu;simp at this;omega⟩
   have cw : wr.cell? ⟨g,m,none⟩ = some (.int .i64 (on : Int)):=by
    have:=owns_cell h2 (i:=m) (by simp;omega)
    rw [List.getD_eq_getElem?_getD,List.getElem?_append_right (by omega),hm,Nat.sub_self] at this
    simpa using this
   have c2 : wr.cell? ⟨B0,2,none⟩ = some (.slice (some ⟨gp,0,none⟩) nn nn):=blk_cell h3.box 2
   have cp : wr.cell? ⟨gp,on,none⟩ = some (.int .i64 (pl'.getD on 0)):=h3.places.cell (by rw [h3.plen];exact hon)
   have hown1 : wr.ownsRow base 3 1 (.slice (some ⟨g,0,none⟩) m cap) m (cz stk0):=by
    have:=owns_take h2 (m:=m) (by omega)
    rwa [cz_append,List.take_left' (by rw [cz_length];exact hm)] at this
   have H3:=hid h3
   have H4:=hid h4
   have H5:=hid h5
   have H6:=hid h6
   have H7:=hid h7
   have H8:=hid h8
   have HOWN:=hid hown1
   have HM0:=hid hm
   by_cases hp : pl'.getD on 0 = -1
   ·have ep : ((pl'.getD on 0) != -1) = false := by rw [bne_eq_false_iff_eq]; exact hp
    have hmeet:=h5.meet (by simpa using hp)
    have hroom:=h5.room (by simpa using hp)
    have hfol : Hid (followS ns f'' ((ns.getD on default).kids ++ stk0.reverse) (meetS ns pl' ord' on).1 (meetS ns pl' ord' on).2 = followS ns f [root] pl ord):=by
     unfold Hid
     rw [<- h6]
     show _ = followS ns (f'' + 1) ((on : Int) :: stk0.reverse) pl' ord'
     rw [followS,if_neg (by simpa using hp)];rfl
    rw [Int.toNat_natCast] at hmeet
    have HMEET:=hid hmeet
    have hfu:=hmeet.fu
    rw [List.length_append,List.length_reverse] at hfu
    have hgl : g < wr.heap.size:=by
     rcases hown1.2 with ⟨h,_⟩ | ⟨g',cap',cur,h,_,h2',_⟩
     ·cases h
     ·cases h;exact (Array.getElem?_eq_some_iff.1 h2').1
    clear h1 h2 h3 h4 h5 h6 h7 h8 hown1 hI hm hmeet
    obtain ⟨pv,hpv⟩ : ∃ pv,pv = pl'.getD on 0:=⟨_,rfl⟩
    rw [<- hpv] at cp ep
    clear hp hpv
    go_wp2_with fail
    refine (meet_any base w0 wr B0 gp Bm an nn cn ar nr cr ns rs pl' ord' vo' on hon hnn (by omega) hb HG.out H3.out H4.out).mono ?_
    rintro e w2 ⟨rfl,vo2,hw2,hm2,ht2,hl2⟩
    generalize (meetS ns pl' ord' on).1 = pl2 at *
    generalize (meetS ns pl' ord' on).2 = ord2 at *
    have hog : wr.heap.size <= w2.heap.size:=ht2.size
    have hsame : w2.heap[g]? = wr.heap[g]?:=ht2.same g hgl (by rintro (e | e | e | e);exact H7.out.1 e;exact H7.out.2.1 e;exact H7.out.2.2.1 e;exact H7.out.2.2.2 e)
    have hown2 : w2.ownsRow base 3 1 (.slice (some ⟨g,0,none⟩) m cap) m (cz stk0):=owns_frame HOWN.out (fun b hb=>by cases hb;exact hsame)
    have hne2 : vo2.ownBlock ≠ some g:=by
     intro e
     rcases hl2 g e with h | h
     ·exact H7.out.2.2.2 h
     ·omega
    have hnlen:=HG.out.nodes.len
    obtain ⟨b,ob,hanb,hlb,hcn⟩:=HG.out.nodes.some (by omega)
    have hnd:=(hcn on hon).below hlb (by rw [<- hb];exact hw2.bel)
    obtain ⟨k1,k2,k3,ak,nk,ck,k4,k5⟩:=hnd
    subst hanb
    have c0 : w2.cell? ⟨B0,0,none⟩ = some (.slice (some ⟨b,ob,none⟩) nn cn):=blk_cell hw2.box 0
    obtain ⟨kd,hkd⟩ : ∃ kd,kd = (ns.getD on default).kids:=⟨_,rfl⟩
    rw [<- hkd] at k5 hfol HMEET hfu
    have hnk:=k5.len
    have hfk:=k5.fits
    have hmk:=k5.most
    have hn1:=HG.out.nodes.fits
    have hn2:=HG.out.nodes.most
    unfold maxLen at hmk hn2
    have HK : Hid (IRow w0 ak nk ck kd /\ True):=by
     obtain ⟨_,_,_,ak',nk',ck',k4',k5'⟩:=hcn on hon
     have : some (Value.slice ak' nk' ck') = some (.slice ak nk ck):=by
      rw [<- k4,<- k4']
      exact (hw2.bel.cell (p:=⟨b,ob + on * 4 + 3,none⟩) (by rw [hb];exact hlb)).symm
     cases this
     exact ⟨by rw [hkd];exact k5',trivial⟩
    have HW2:=hid hw2
    have HM2:=hid hm2
    have HO2:=hid hown2
    have HN2:=hid hne2
    have HS2 : Hid (g0 <= w2.heap.size):=Nat.le_trans H8.out hog
    clear hcn k1 k2 k3 k5 hkd hw2 hm2 hown2 hne2 hsame hog ht2 hl2 hgl cw c2 cp
    go_wp2_with fail
    go_loopw [4,8] (fun v i wx=>∃ p g cap : Nat,p <= nk /\ i = .int .i64 ((p : Int) - 1) /\ v = .slice (some ⟨g,0,none⟩) (m + (nk - p)) cap /\ m + (nk - p) <= cap /\ cap <= 9223372036854775807 /\ Hid (wx.ownsRow base 3 1 (.slice (some ⟨g,0,none⟩) (m + (nk - p)) cap) (m + (nk - p)) (cz (stk0 ++ (kd.drop p).reverse)) /\ WCore base w0 wx B0 gp Bm (some ⟨b,ob,none⟩) nn cn ar nr cr pl2 ord2 vo2 /\ MapIs wx Bm ns ord2 /\ (g ≠ B0 /\ g ≠ gp /\ g ≠ Bm /\ vo2.ownBlock ≠ some g) /\ g0 <= wx.heap.size)) (fun _ i _=>(intOf i + 1).toNat)
    case atStart =>
     refine ⟨nk,g,cap,Nat.le_refl _,rfl,by rw [Nat.sub_self,Nat.add_zero],by omega,hcap,?_⟩
     rw [Nat.sub_self,Nat.add_zero,List.drop_eq_nil_of_le (by omega),List.reverse_nil,List.append_nil]
     exact ⟨HO2.out,HW2.out,HM2.out,⟨H7.out.1,H7.out.2.1,H7.out.2.2.1,HN2.out⟩,HS2.out⟩
    case round =>
     obtain ⟨p,g1,cap1,hpk,rfl,rfl,hc1,hc2,hJ⟩:=hrel
     by_cases hp0 : p = 0
     ·subst hp0
      have hfin:=hJ
      rw [List.drop_zero] at hfin
      have hlen2 : Hid (stk0.length + kd.length = m + nk):=by unfold Hid;rw [HM0.out,hnk]
      clear hJ
      go_wp2_with fail
      go_roundg gk'
      case measure=>omega
      case rel =>
       obtain ⟨j1,j2,j3,j4,j5⟩:=hfin.out
       refine ⟨g1,m + (nk - 0),cap1,stk0 ++ kd.reverse,pl2,ord2,vo2,f'',rfl,by have:=hlen2.out;omega,hc1,hc2,by omega,⟨?_,j1,j2,j3,?_,?_,j4,j5⟩,by omega⟩
       ·rw [List.length_append,List.length_reverse,hlen2.out];omega
       ·rw [List.reverse_append,List.reverse_reverse];exact HMEET.out
       ·rw [List.reverse_append,List.reverse_reverse];exact hfol.out
     ·obtain ⟨q, rfl⟩ : ∃ q, p = q + 1 := ⟨p - 1, by omega⟩
      obtain ⟨j1,j2,j3,j4,j5⟩:=hJ.out
      obtain ⟨bk,ok,hak,hlk,hck⟩:=HK.out.1.some (by omega)
      have ck1:=hck q (by omega)
      obtain ⟨z,hz⟩ : ∃ z,z = kd.getD q 0:=⟨_,rfl⟩
      rw [<- hz] at ck1
      have ckw : wr.cell? ⟨bk,ok + q,none⟩ = some (.int .i64 z):=(j2.bel.cell (p:=⟨bk,ok + q,none⟩) (by rw [hb];exact hlk)).trans ck1
      subst hak
      have hzb:=HK.out.1.get (i:=q) (by omega)
      rw [<- hz] at hzb
      obtain ⟨hz1,hz2⟩:=hzb
      have J2:=hid j2
      have J3:=hid j3
      have J4:=hid j4
      have J5:=hid j5
      have HOA : Hid (∀ ox,(wr.alloc ox).ownsRow base 3 1 (.slice (some ⟨g1,0,none⟩) (m + (nk - (q + 1))) cap1) (m + (nk - (q + 1))) (cz (stk0 ++ (kd.drop (q + 1)).reverse))):=fun ox=>owns_frame j1 (fun b hb'=>(Ba wr ox).block b (by
       rcases j1.2 with ⟨h,_⟩ | ⟨g',cap',cur,h,_,h2',_⟩
       ·cases h
       ·cases h;cases hb';exact (Array.getElem?_eq_some_iff.1 h2').1))
      have hg1l : g1 < wr.heap.size:=by
       rcases j1.2 with ⟨h,_⟩ | ⟨g',cap',cur,h,_,h2',_⟩
       ·cases h
       ·cases h;exact (Array.getElem?_eq_some_iff.1 h2').1
      have hg1b : base <= g1:=by
       rcases j1.2 with ⟨h,_⟩ | ⟨g',cap',cur,h,h2',_⟩
       ·cases h
       ·cases h;exact h2'
      have hbl : Hid (base <= wr.heap.size):=j2.base_le
      have hdr : Hid (stk0 ++ (kd.drop q).reverse = stk0 ++ (kd.drop (q + 1)).reverse ++ [z]):=by
       unfold Hid
       have hql : q < kd.length:=by rw [HK.out.1.len];omega
       have : kd.drop q = z :: kd.drop (q + 1):=by
        rw [hz,List.getD_eq_getElem?_getD,List.getElem?_eq_getElem hql]
        exact List.drop_eq_getElem_cons hql
       rw [this];simp
      have hbnd : m + (nk - (q + 1)) <= 1000000:=by omega
      clear hck ck1 hz j1 j2 j3 j4 j5 hJ
      go_wp2_with (at_builtin;refine appz rfl _ _ 32 rfl base 3 Tryz.underlying32 info_int _ _ (stk0 ++ (kd.drop (q + 1)).reverse) rfl (HOA.out _) ⟨wr.heap.size,0,none⟩ 1 z rfl ?c0 hbnd (by have:=hbl.out;simp;omega) ?_;rotate_right;intro g2 cap2 w4 hown hgrow hloc hglt)
      case c0=>exact cell_new wr (.int .i64 z) 3
      have e1 : m + (nk - (q + 1)) + 1 = m + (nk - q):=by omega
      rw [e1] at hown ⊢
      rw [<- hdr.out] at hown
      have hcc : m + (nk - q) <= cap2 /\ cap2 <= 9223372036854775807:=by
       rcases hown.2 with ⟨h,_⟩ | ⟨g',cap',cur,h,_,_,h3',h4',_⟩
       ·cases h
       ·cases h;unfold maxLen at h4';exact ⟨h3',h4'⟩
      have ha:=J2.out.on (Ba wr (.cells #[.int .i64 z] 3))
      have hgr : (wr.alloc (.cells #[.int .i64 z] 3)).grownBy w4 (some g1):=hgrow
      have hblw : Below base (wr.alloc (.cells #[.int .i64 z] 3)) w4:=(Below.refl base _).grown hgr ha.base_le (fun k hk=>by cases hk;exact hg1b)
      have hcore:=ha.frame hblw (hgr.block B0 ha.lt (fun e=>J4.out.1 (Option.some.inj e).symm)) (hgr.block gp ha.places.lt (fun e=>J4.out.2.1 (Option.some.inj e).symm)) (fun b' hb'=>hgr.block b' (ha.own_lt hb').1 (fun e=>J4.out.2.2.2 (by rw [hb',e])))
      have hmap:=(J3.out.frame ((Ba wr (.cells #[.int .i64 z] 3)).block Bm J3.out.lt)).frame (hgr.block Bm ha.bm (fun e=>J4.out.2.2.1 (Option.some.inj e).symm))
      have hg2 : g2 = g1 \/ wr.heap.size < g2:=by
       have hloc' : some g1 = some g2 \/ g2 = (wr.alloc (.cells #[.int .i64 z] 3)).heap.size:=hloc
       rcases hloc' with h | h
       ·left;exact (Option.some.inj h).symm
       ·right;rw [size_alloc] at h;omega
      refine ⟨⟨q,g2,cap2,by omega,rfl,rfl,hcc.1,hcc.2,hown,hcore,hmap,?_,?_⟩,by simp [intOf] <;> omega⟩
      ·rcases hg2 with rfl | hg2
       ·exact J4.out
       ·refine ⟨?_, ?_, ?_, ?_⟩
        ·have:=J2.out.lt;omega
        ·have:=J2.out.places.lt;omega
        ·have:=J3.out.lt;omega
        ·intro e;have:=(J2.out.own_lt e).1;omega
      ·have h1:=J5.out;have h2:=hgr.size;rw [size_alloc] at h2;omega
   ·have ep : ((pl'.getD on 0) != -1) = true := by rw [bne_iff_ne]; exact hp
    have hskip : Hid (Fv ns nn stk0.reverse pl' ord' f'' /\ followS ns f'' stk0.reverse pl' ord' = followS ns f [root] pl ord):=by
     refine ⟨h5.skip,?_⟩
     rw [<- h6]
     show _ = followS ns (f'' + 1) ((on : Int) :: stk0.reverse) pl' ord'
     rw [followS,if_pos (by simpa using hp)]
    clear h1 h2 h3 h4 h5 h6 h7 h8 hown1 hI hm
    generalize pl'.getD on 0 = pv at *
    go_wp2_with fail
    go_roundg gk'
    case measure=>omega
    case rel=>exact ⟨g,m,cap,stk0,pl',ord',vo',f'',rfl,by omega,by omega,hcap,by omega,⟨HM0.out,HOWN.out,H3.out,H4.out,hskip.out.1,hskip.out.2,H7.out,H8.out⟩,by omega⟩
def renum (pl l : List Int) : List Int:=l.map fun o=>pl.getD o.toNat 0
theorem irow_of {w : World} {base : Nat} {v : Value} {n : Nat} {l : List Int} (h : w.ownsRow base 3 1 v n (cz l)) (hb : ∀ z∈l,I64 z) : ∃ ao cap,v = .slice ao n cap /\ IRow w ao n cap l:=by
 have hn : l.length = n:=by have:=h.1;rw [cz_length] at this;omega
 rcases h.2 with ⟨rfl,h0⟩ | ⟨g,cap,cur,rfl,hbs,hg,hle,hm,hsz,htk⟩
 ·subst h0
  have : l = []:=List.length_eq_zero_iff.1 hn
  subst this
  exact ⟨none,0,rfl,IRow.nil _ _⟩
 ·refine ⟨some ⟨g, 0, none⟩, cap, rfl, hn, hle, hm, fun h => (by cases h), hb, .inr ⟨g, 0, rfl, (Array.getElem?_eq_some_iff.1 hg).1, fun i hi => ?_⟩⟩
  rw [Nat.zero_add]
  exact owns_cell (base:=base) (n:=n) (cap:=cap) ⟨h.1,.inr ⟨g,cap,cur,rfl,hbs,hg,hle,hm,hsz,htk⟩⟩ hi
set_option maxHeartbeats 2000000 in
theorem renumbered_any (base : Nat) (w0 w : World) (B0 gp Bm : Nat) (an : Option Addr) (nn cn : Nat) (ar : Option Addr) (nr cr : Nat) (pl ord : List Int) (vo : Value) (W : WCore base w0 w B0 gp Bm an nn cn ar nr cr pl ord vo)
  (ao : Option Addr) (n cap : Nat) (l : List Int) (R : IRow w ao n cap l) (hr : ∀ z∈l,0 <= z /\ z < nn) (hn : n <= 2500) (hnn : nn <= 2500) :
  Calls Tryz.prog 136 #[.pointer (some ⟨B0,0,none⟩),.slice ao n cap] w fun e w'=>∃ v,e = .returned v /\ w'.ownsRow w.heap.size 3 1 v n (cz (renum pl l)) /\ Below w.heap.size w w':=by
 have HW:=hid W
 have HR:=hid R
 have HRN:=hid hr
 have hf:=R.fits
 have hm:=R.most
 unfold maxLen at hm
 clear W R hr
 go_enter Tryz.func136,Tryz.ntmps136
 go_wp2_with fail
 go_loopw [5,10] (fun v i wr=>∃ m : Nat,m <= n /\ i = .int .i64 m /\ Hid (wr.ownsRow w.heap.size 3 1 v m (cz (renum pl (l.take m))) /\ Below w.heap.size w wr)) (fun _ i _=>n - (intOf i).toNat)
 case atStart=>exact ⟨0,Nat.zero_le _,rfl,by simpa [renum,cz] using World.ownsRow_nil _ _ _ _,Below.refl _ _⟩
 case round =>
  obtain ⟨m,hmn,rfl,hI⟩:=hrel
  have hbw:=hI.out.2
  by_cases hlt : m < n
  ·obtain ⟨b, o, rfl, hl, hc⟩ := HR.out.some (by omega)
   have hml : m < l.length:=by rw [HR.out.len];exact hlt
   obtain ⟨z,hz⟩ : ∃ z,z = l.getD m 0:=⟨_,rfl⟩
   have hzr : 0 <= z /\ z < nn:=HRN.out z (by rw [hz,List.getD_eq_getElem?_getD,List.getElem?_eq_getElem hml];exact List.getElem_mem hml)
   obtain ⟨zn,rfl⟩:=Int.eq_ofNat_of_zero_le hzr.1
   have hzn : zn < nn:=by omega
   have hc1 : wr.cell? ⟨b,o + m,none⟩ = some (.int .i64 (zn : Int)):=by
    rw [hz];exact (hbw.cell (p:=⟨b,o + m,none⟩) hl).trans (hc m hlt)
   have hw:=HW.out.on hbw
   have c2 : wr.cell? ⟨B0,2,none⟩ = some (.slice (some ⟨gp,0,none⟩) nn nn):=blk_cell hw.box 2
   have cp : wr.cell? ⟨gp,zn,none⟩ = some (.int .i64 (pl.getD zn 0)):=hw.places.cell (by rw [hw.plen];exact hzn)
   obtain ⟨pv,hpv⟩ : ∃ pv,pv = pl.getD zn 0:=⟨_,rfl⟩
   rw [<- hpv] at cp
   have hst : Hid (renum pl (l.take (m + 1)) = renum pl (l.take m) ++ [pv]):=by
    unfold Hid renum
    rw [List.take_succ_eq_append_getElem hml,List.map_append]
    congr 1
    simp only [List.map_cons,List.map_nil]
    have : l[m] = (zn : Int):=by rw [hz,List.getD_eq_getElem?_getD,List.getElem?_eq_getElem hml];rfl
    rw [this,hpv];simp
   have HOA : Hid (∀ ox,(wr.alloc ox).ownsRow w.heap.size 3 1 u5 m (cz (renum pl (l.take m)))):=fun ox=>hI.out.1.alloc ox
   have HBW:=hid hbw
   have hsz : Hid (w.heap.size <= wr.heap.size):=hbw.size
   have HOW:=hid hI.out.1
   clear hc hz hpv hw hbw hI
   go_wp2_with (at_builtin;refine appz rfl _ _ 32 rfl w.heap.size 3 Tryz.underlying32 info_int _ _ (renum pl (l.take m)) rfl (HOA.out _) ⟨wr.heap.size,0,none⟩ 1 pv rfl ?c0 (by omega) (by have:=hsz.out;simp;omega) ?_;rotate_right;intro g2 cap2 w4 hown hgrow hloc hglt)
   case c0=>exact cell_new wr (.int .i64 pv) 3
   rw [<- hst.out] at hown
   have hb2 : Below w.heap.size (wr.alloc (.cells #[.int .i64 pv] 3)) w4:=(Below.refl _ _).grown hgrow (by have:=hsz.out;rw [size_alloc];omega) (fun k hk=>(HOW.out.lt k hk).1)
   exact ⟨⟨m + 1,by omega,by go_num,hown,((HBW.out.trans ((Ba wr _).mono hsz.out)).trans hb2)⟩,by simp [intOf] <;> omega⟩
  ·obtain rfl : m = n := by omega
   obtain ⟨h1,h2⟩:=hI.out
   rw [List.take_of_length_le (by rw [HR.out.len];omega)] at h1
   have H1:=hid h1
   have H2:=hid h2
   clear h1 h2 hI hbw
   go_wp2_with fail
   go_ret
   exact ⟨_,rfl,H1.out,H2.out⟩
end Go.Proofs.YticimejfjjmikaaGreatDoor
