import Derived.Test.YticimejfjjmikaaGreatDoorRK
set_option linter.unusedVariables false
set_option linter.unusedSimpArgs false
set_option maxRecDepth 100000
namespace Go.Proofs.YticimejfjjmikaaGreatDoor
open Go.RowKit
def LE (gb : Nat) (W0 : World) (ds : List Nd) (w : World) : Prop:=∃ v ls,LM gb W0 v ls w /\ ls.map Prod.fst = ds
theorem irow_two {w : World} {g : Nat} {a b : Int} {t : TypeId} (h : w.heap[g]? = some (.cells #[.int .i64 a,.int .i64 b] t (0,0))) (ha : I64 a) (hb : I64 b) : IRow w (some ⟨g,0,none⟩) 2 2 [a,b] :=
 ⟨rfl,Nat.le_refl _,by unfold maxLen;omega,fun e=>(by cases e),fun y hy=>by simp at hy;rcases hy with rfl | rfl <;> assumption,.inr ⟨g,0,rfl,(Array.getElem?_eq_some_iff.1 h).1,fun i hi=>by
  have : i = 0 \/ i = 1:=by simp at hi;omega
  rcases this with rfl | rfl
  ·exact blk_cell h 0
  ·exact blk_cell h 1⟩⟩
theorem put_step {gb : Nat} {W0 wr wx w7 : World} {v1 : Value} {ls1 : List (Nd × (Option Addr × Nat × Nat))} {ak g cap : Nat} {x y : Int} {tz : ByteArray} (hM : LM gb W0 v1 ls1 wr) (bx : Below wr.heap.size wr wx) (hak : wr.heap.size <= ak) (hkb : wx.heap[ak]? = some (.cells #[.int .i64 x,.int .i64 y] 3 (0,0))) (hx : I64 x) (hy : I64 y) (ht : tz.size <= maxLen)
  (ho : w7.ownsRow (gb + 1) 54 4 (.slice (some ⟨g,0,none⟩) (ls1.length + 2) cap) (ls1.length + 2) (ncs ls1 ++ (nc (⟨3,0,tz,[]⟩,none,0,0) ++ nc (⟨7,0,⟨#[]⟩,[x,y]⟩,some ⟨ak,0,none⟩,2,2)))) (hg : wx.grownBy w7 v1.ownBlock) (hl : v1.ownBlock = some g \/ g = wx.heap.size) :
  w7.frozen? ⟨gb,0,none⟩ = false /\ w7.cell? ⟨gb,0,none⟩ = some v1 /\ LM gb W0 (.slice (some ⟨g,0,none⟩) (ls1.length + 2) cap) (ls1 ++ [(⟨3,0,tz,[]⟩,none,0,0),(⟨7,0,⟨#[]⟩,[x,y]⟩,some ⟨ak,0,none⟩,2,2)]) (w7.setCell ⟨gb,0,none⟩ (.slice (some ⟨g,0,none⟩) (ls1.length + 2) cap)):=by
 have hsz:=hM.size
 refine (hM.on bx).push (ds:=[(⟨3,0,tz,[]⟩,none,0,0),(⟨7,0,⟨#[]⟩,[x,y]⟩,some ⟨ak,0,none⟩,2,2)]) (k:=2) rfl (by simpa [ncs] using ho) hg hl (fun z hz=>?_) (fun z hz=>?_)
 ·rcases List.mem_cons.1 hz with rfl | hz
  ·exact ⟨by show I64 3;unfold I64;decide,by show I64 0;unfold I64;decide,ht⟩
  ·obtain rfl := List.mem_singleton.1 hz
   exact ⟨by show I64 7;unfold I64;decide,by show I64 0;unfold I64;decide,Nat.zero_le _⟩
 ·rcases List.mem_cons.1 hz with rfl | hz
  ·exact ⟨IRow.nil _ _,fun ad e=>by cases e⟩
  ·obtain rfl := List.mem_singleton.1 hz
   refine ⟨irow_two hkb hx hy,fun ad e=>?_⟩
   injection e with e
   subst e
   refine ⟨by show gb + 1 <= ak;omega,(Array.getElem?_eq_some_iff.1 hkb).1,fun e2=>?_⟩
   have:=(hM.own.own.lt ak e2).2
   omega
theorem bel_grown {gb : Nat} {W0 w w' : World} {v : Value} {ls : List (Nd × (Option Addr × Nat × Nat))} (h : LM gb W0 v ls w) (hg : w.grownBy w' v.ownBlock) : Below gb W0 w':=by
 have hsz:=h.size
 have h1 : Below gb w w':=⟨hg.os,hg.tape,hg.output,hg.size,fun b hb=>hg.block b (by omega) (fun e=>by have:=(h.own.own.lt b e.symm).1;omega)⟩
 exact h.bel.trans h1
def PSt (gb bl o : Nat) (v : Value) (z : Int) (w : World) : Prop:=w.cell? ⟨gb,0,none⟩ = some v /\ w.cell? ⟨bl,o,none⟩ = some (.int .i64 z)
theorem PSt.on {gb bl o : Nat} {v : Value} {z : Int} {w w' : World} (h : PSt gb bl o v z w) (hb : Below w.heap.size w w') : PSt gb bl o v z w' :=
 ⟨(hb.cell (p:=⟨gb,0,none⟩) (cell_lt h.1)).trans h.1,(hb.cell (p:=⟨bl,o,none⟩) (cell_lt h.2)).trans h.2⟩
set_option maxHeartbeats 16000000 in
theorem put_any (gb : Nat) (W0 : World) (ao : Option Addr) (n cap : Nat) (l : List Int) (ds : List Nd) (w : World) (h : LE gb W0 ds w) (R : ∀ wx,Below gb W0 wx -> IRow wx ao n cap l) (hn : n <= 1000) (hd : ds.length <= 1000) :
  Calls Tryz.prog 27 #[.slice ao n cap,.pointer (some ⟨gb,0,none⟩)] w fun e w'=>e = .returned (.int .i64 ((ds.length + 2 * n : Nat) : Int)) /\ LE gb W0 (ds ++ chP ds.length l) w':=by
 obtain ⟨v,ls,hM,rfl⟩:=h
 rw [List.length_map] at hd ⊢
 have HM:=hid hM
 have HR:=hid R
 obtain ⟨a0,c0,rfl,hf0,hm0⟩:=hM.form
 obtain ⟨x0,x1,x2⟩:=hM.cell
 have hsz:=hM.size
 have HM1:=hid (hM.on (Ba w (.cells #[.int .i64 1,.int .i64 0,.string ⟨#[]⟩,.slice none 0 0] 54)))
 have hnw:=blk_new w #[.int .i64 1,.int .i64 0,.string ⟨#[]⟩,.slice none 0 0] 54
 have hs1:=size_alloc w (.cells #[.int .i64 1,.int .i64 0,.string ⟨#[]⟩,.slice none 0 0] 54)
 have HNW:=hid hnw
 have HOW:=hid HM1.out.own.own
 have hgb1 : gb + 1 <= (w.alloc (.cells #[.int .i64 1,.int .i64 0,.string ⟨#[]⟩,.slice none 0 0] 54)).heap.size:=by omega
 have HGB:=hid hgb1
 unfold maxLen at hm0
 have HNO : Hid (NdOk ⟨1,0,⟨#[]⟩,[]⟩):=by unfold Hid NdOk I64 maxLen;exact ⟨by decide,by decide,by decide⟩
 clear hM R hnw hs1 hgb1
 go_enter Tryz.func27,Tryz.ntmps27
 go_wp2_with (at_builtin;refine appn rfl _ _ 31 rfl (gb + 1) 54 Tryz.underlying31 info_node _ ls.length (ncs ls) rfl HOW.out w.heap.size 1 (⟨1,0,⟨#[]⟩,[]⟩,none,0,0) rfl (fun j u hj=>news_of HNW.out hj) (by omega) HGB.out ?_;intro g' cap' w6 hown hgrow hloc hglt;obtain ⟨f1,f2,p6⟩:=HM1.out.push (ds:=[(⟨1,0,⟨#[]⟩,[]⟩,none,0,0)]) (k:=1) rfl (by simpa [ncs] using hown) hgrow hloc (fun x hx=>by obtain rfl:=List.mem_singleton.1 hx;exact HNO.out) (fun x hx=>by obtain rfl:=List.mem_singleton.1 hx;exact ⟨IRow.nil _ _,fun ad e=>by cases e⟩);have HP6:=hid p6;clear p6 hown hgrow hloc hglt)
 obtain ⟨v6,hv6⟩ : ∃ v,v = Value.slice (some ⟨g',0,none⟩) (ls.length + 1) cap':=⟨_,rfl⟩
 have H0 : Hid (LE gb W0 (ls.map Prod.fst ++ chP ls.length (l.take 0)) (w6.setCell ⟨gb,0,none⟩ (.slice (some ⟨g',0,none⟩) (ls.length + 1) cap'))):=⟨_,_,HP6.out,by rw [List.map_append];rfl⟩
 have HLN:=hid (HR.out _ HP6.out.bel).len
 clear HP6 HM1 HOW HNW HGB HM f1 f2 x0 x1 x2 hsz hf0 hm0 hv6 HNO
 go_loopw [4,5] (fun m i wr=>∃ q : Nat,q <= n /\ i = .int .i64 q /\ m = .int .i64 ((ls.length + 2 * q : Nat) : Int) /\ Hid (LE gb W0 (ls.map Prod.fst ++ chP ls.length (l.take q)) wr)) (fun _ i _=>n - (intOf i).toNat)
 case atStart=>exact ⟨0,Nat.zero_le _,rfl,by simp,H0.out⟩
 case round =>
  clear H0
  obtain ⟨q,hq,rfl,rfl,hI⟩:=hrel
  obtain ⟨v1,ls1,hM1,hls⟩:=hI.out
  by_cases hlt : q < n
  ·have hk1 : ls1.length = ls.length + 2 * q + 1 := by
    have:=congrArg List.length hls
    rw [List.length_map,List.length_append,List.length_map,chP_len,List.length_take,HLN.out,Nat.min_eq_left hq] at this
    omega
   have HLS:=hid hls
   have HM1:=hid hM1
   obtain ⟨a1,c1,rfl,hf1,hm1⟩:=hM1.form
   obtain ⟨x0,x1,x2⟩:=hM1.cell
   have hsz:=hM1.size
   have hrow:=HR.out wr hM1.bel
   obtain ⟨bl,ol,rfl,hbl,hcl⟩:=hrow.some (by omega)
   have hfr:=hrow.fits
   have hmr:=hrow.most
   unfold maxLen at hmr hm1
   have hz64:=hrow.bd _ (getD_mem0 (by rw [HLN.out];exact hlt) : l.getD q 0∈l)
   have xc:=hcl q hlt
   obtain ⟨z,hz⟩ : ∃ z,z = l.getD q 0:=⟨_,rfl⟩
   rw [<- hz] at xc hz64
   have HZ:=hid hz
   have CD : Hid (∀ wx,_):=digits_any z (by unfold Z64;unfold I64 at hz64;omega)
   obtain ⟨k1,hkk⟩ : ∃ k,k = ls1.length:=⟨_,rfl⟩
   have HKK:=hid hkk
   have HK1:=hid hk1
   obtain ⟨tz,htz⟩ : ∃ t,t = digT z:=⟨_,rfl⟩
   rw [<- htz] at CD
   have HTZ:=hid htz
   have hq1 : (q : Int) < (n : Int):=by omega
   have hq0 : (0 : Int) <= (q : Int):=by omega
   have HOWN : Hid (∀ wx,Below wr.heap.size wr wx -> wx.ownsRow (gb + 1) 54 4 (.slice a1 ls1.length c1) ls1.length (ncs ls1)):=fun wx hb=>(hM1.on hb).own.own
   have hk1' : (ls1.length : Int) = (ls.length : Int) + 2 * (q : Int) + 1:=by omega
   have hl1 : ls1.length <= 1000000:=by omega
   have HTS : Hid (tz.size <= maxLen):=by rw [htz];exact Nat.le_trans (dig_small (by unfold Z64;unfold I64 at hz64;omega)) (by unfold maxLen;omega)
   have HI1 : Hid (I64 (ls1.length : Int)):=by unfold Hid I64;omega
   have HI2 : Hid (I64 ((ls.length : Int) + 2 * (q : Int))):=by unfold Hid I64;omega
   have HSZ:=hid hsz
   have bd0 : Below wr.heap.size wr wr.drew:=Bd wr 1
   have BD0:=hid bd0
   have BDK : Hid (Below wr.heap.size wr (wr.alloc (.cells #[.int .i64 (ls1.length : Int),.int .i64 ((ls.length : Int) + 2 * (q : Int))] 3)).drew):=Bt (Ba wr _) (Bd (wr.alloc (.cells #[.int .i64 (ls1.length : Int),.int .i64 ((ls.length : Int) + 2 * (q : Int))] 3)) 1)
   have SZK : Hid (wr.heap.size < (wr.alloc (.cells #[.int .i64 (ls1.length : Int),.int .i64 ((ls.length : Int) + 2 * (q : Int))] 3)).drew.heap.size):=by show wr.heap.size < (wr.alloc _).heap.size;rw [size_alloc];omega
   have KB : Hid ((wr.alloc (.cells #[.int .i64 (ls1.length : Int),.int .i64 ((ls.length : Int) + 2 * (q : Int))] 3)).drew.heap[wr.heap.size]? = some (.cells #[.int .i64 (ls1.length : Int),.int .i64 ((ls.length : Int) + 2 * (q : Int))] 3 (0,0))):=blk_new wr #[.int .i64 (ls1.length : Int),.int .i64 ((ls.length : Int) + 2 * (q : Int))] 3
   have HEQ : Hid (∀ a b : Option Addr × Nat × Nat,(ls1 ++ [((⟨3,0,tz,[]⟩ : Nd),a),((⟨7,0,⟨#[]⟩,[(ls1.length : Int),(ls.length : Int) + 2 * (q : Int)]⟩ : Nd),b)]).map Prod.fst = ls.map Prod.fst ++ chP ls.length (l.take (q + 1))):=fun a b=>by
    have hql : (l.take q).length = q:=by rw [List.length_take,HLN.out,Nat.min_eq_left hq]
    rw [List.map_append,HLS.out,take_succ_of 0 (by rw [HLN.out];exact hlt),chP_snoc,<- List.append_assoc,hql,<- HZ.out,<- HTZ.out]
    have e1 : (ls1.length : Int) = ((ls.length + 2 * q + 1 : Nat) : Int):=by rw [HK1.out]
    have e2 : (ls.length : Int) + 2 * (q : Int) = ((ls.length + 2 * q : Nat) : Int):=by omega
    rw [e1,e2]
    rfl
   have w1 : (wr.alloc (.cells #[.int .i64 (ls1.length : Int),.int .i64 ((ls.length : Int) + 2 * (q : Int))] 3)).cell? ⟨bl,ol + q,none⟩ = some (.int .i64 z):=((Ba wr _).cell (p:=⟨bl,ol + q,none⟩) (cell_ltA xc)).trans xc
   have w2 : (wr.alloc (.cells #[.int .i64 (ls1.length : Int),.int .i64 ((ls.length : Int) + 2 * (q : Int))] 3)).cell? ⟨gb,0,none⟩ = some (.slice a1 ls1.length c1):=((Ba wr _).cell (p:=⟨gb,0,none⟩) (cell_ltA x0)).trans x0
   clear bd0
   clear hM1 hls hrow hcl hz hI hk1 hbl hkk htz hk1'
   go_wp2_with fail
   have HPS : Hid (PSt gb bl (ol + q) (.slice a1 ls1.length c1) z wr):=⟨x0,xc⟩
   have HPD : Hid (∀ wx,Below wr.heap.size wr wx -> PSt gb bl (ol + q) (.slice a1 ls1.length c1) z wx):=fun wx h=>HPS.out.on h
   clear x0 x1 x2 xc w1 w2
   refine wp_region_K (S:=PSt gb bl (ol + q) (.slice a1 ls1.length c1) z) 17 (by kernel_rfl) (HPD.out _ (Bd wr 1)) (fun hHeld=>?_)
   refine ktake 0 (some 22) (.pointer (some ⟨gb,0,none⟩)) rfl rfl (by kernel_rfl) (by kernel_rfl) (by kernel_rfl) (by kernel_rfl) (fun _ _ _ h=>h) (Or.inl ⟨by rfl,fun wx hSw=>?_⟩) (by assumption) ?_
   ·go_simp
   simp only [Act.put,List.setIfInBounds_toArray,List.set_cons_zero,List.set_cons_succ]
   refine ktake 1 (some 23) (.slice a1 ls1.length c1) rfl rfl (by kernel_rfl) (by kernel_rfl) (by kernel_rfl) (by kernel_rfl) (fun _ _ _ h=>h) (Or.inl ⟨by rfl,fun wx hSw=>?_⟩) (by assumption) ?_
   ·obtain ⟨s0,s1⟩:=hSw;go_simp
   simp only [Act.put,List.setIfInBounds_toArray,List.set_cons_zero,List.set_cons_succ]
   refine ktake 2 (some 24) (.slice (some ⟨bl,ol,none⟩) n cap) rfl rfl (by kernel_rfl) (by kernel_rfl) (by kernel_rfl) (by kernel_rfl) (fun _ _ _ h=>h) (Or.inl ⟨by rfl,fun wx hSw=>?_⟩) (by assumption) ?_
   ·go_simp
   simp only [Act.put,List.setIfInBounds_toArray,List.set_cons_zero,List.set_cons_succ]
   refine ktake 3 (some 25) (.int .i64 (q : Int)) rfl rfl (by kernel_rfl) (by kernel_rfl) (by kernel_rfl) (by kernel_rfl) (fun _ _ _ h=>h) (Or.inl ⟨by rfl,fun wx hSw=>?_⟩) (by assumption) ?_
   ·go_simp
   simp only [Act.put,List.setIfInBounds_toArray,List.set_cons_zero,List.set_cons_succ]
   refine ktake 4 (some 26) (.pointer (some ⟨bl,ol + q,none⟩)) rfl rfl (by kernel_rfl) (by kernel_rfl) (by kernel_rfl) (by kernel_rfl) (fun _ _ _ h=>h) (Or.inl ⟨by rfl,fun wx hSw=>?_⟩) (by assumption) ?_
   ·go_simp
   simp only [Act.put,List.setIfInBounds_toArray,List.set_cons_zero,List.set_cons_succ]
   refine ktake 5 (some 27) (.int .i64 z) rfl rfl (by kernel_rfl) (by kernel_rfl) (by kernel_rfl) (by kernel_rfl) (fun _ _ _ h=>h) (Or.inl ⟨by rfl,fun wx hSw=>?_⟩) (by assumption) ?_
   ·obtain ⟨s0,s1⟩:=hSw;go_simp
   simp only [Act.put,List.setIfInBounds_toArray,List.set_cons_zero,List.set_cons_succ]
   refine ktake 8 (some 30) (.pointer (some ⟨gb,0,none⟩)) rfl rfl (by kernel_rfl) (by kernel_rfl) (by kernel_rfl) (by kernel_rfl) (fun _ _ _ h=>h) (Or.inl ⟨by rfl,fun wx hSw=>?_⟩) (by assumption) ?_
   ·go_simp
   simp only [Act.put,List.setIfInBounds_toArray,List.set_cons_zero,List.set_cons_succ]
   refine ktake 9 (some 31) (.slice a1 ls1.length c1) rfl rfl (by kernel_rfl) (by kernel_rfl) (by kernel_rfl) (by kernel_rfl) (fun _ _ _ h=>h) (Or.inl ⟨by rfl,fun wx hSw=>?_⟩) (by assumption) ?_
   ·obtain ⟨s0,s1⟩:=hSw;go_simp
   simp only [Act.put,List.setIfInBounds_toArray,List.set_cons_zero,List.set_cons_succ]
   refine ktake 10 (some 32) (.int .i64 (ls1.length : Int)) rfl rfl (by kernel_rfl) (by kernel_rfl) (by kernel_rfl) (by kernel_rfl) (fun _ _ _ h=>h) (Or.inl ⟨by rfl,fun wx hSw=>?_⟩) (by assumption) ?_
   ·go_simp
   simp only [Act.put,List.setIfInBounds_toArray,List.set_cons_zero,List.set_cons_succ]
   refine ktake 11 (some 33) (.int .i64 ((ls.length : Int) + 2 * (q : Int))) rfl rfl (by kernel_rfl) (by kernel_rfl) (by kernel_rfl) (by kernel_rfl) (fun _ _ _ h=>h) (Or.inl ⟨by rfl,fun wx hSw=>?_⟩) (by assumption) ?_
   ·go_simp
   simp only [Act.put,List.setIfInBounds_toArray,List.set_cons_zero,List.set_cons_succ]
   refine ktwo 6 12 _ _ rfl rfl (by kernel_rfl) (fun K hK=>?_) (fun K hK=>?_)
   ·go_simp
    with_reducible refine (CD.out _).mono ?_
    rintro e W1 ⟨rfl,b1⟩
    have bW : Below wr.heap.size wr W1:=Bt BD0.out b1
    refine hK.out _ _ (HPD.out W1 bW) (fun hHeld=>?_)
    clear hK K hHeld
    try simp only [Act.put,List.setIfInBounds_toArray,List.set_cons_zero,List.set_cons_succ]
    have hHeld:=HPD.out W1 bW
    refine ktake 7 (some 29) (.agg #[.int .i64 3,.int .i64 0,.string tz,.slice none 0 0]) rfl rfl (by kernel_rfl) (by kernel_rfl) (by kernel_rfl) (by kernel_rfl) (fun _ _ _ h=>h) (Or.inl ⟨by rfl,fun wx hSw=>?_⟩) (by assumption) ?_
    ·go_simp
    simp only [Act.put,List.setIfInBounds_toArray,List.set_cons_zero,List.set_cons_succ]
    refine kone 12 _ rfl (by kernel_rfl) (fun K hK=>?_)
    go_simp
    refine hK.out _ _ (HPD.out _ (Bt bW (Ba W1 _))) (fun hHeld=>?_)
    clear hK K hHeld
    try simp only [Act.put,List.setIfInBounds_toArray,List.set_cons_zero,List.set_cons_succ]
    have hHeld:=HPD.out _ (Bt bW (Ba W1 (.cells #[.int .i64 (ls1.length : Int),.int .i64 ((ls.length : Int) + 2 * (q : Int))] 3)))
    refine ktake 13 (some 35) (.agg #[.int .i64 7,.int .i64 0,.string ⟨#[]⟩,.slice (some ⟨W1.heap.size,0,none⟩) 2 2]) rfl rfl (by kernel_rfl) (by kernel_rfl) (by kernel_rfl) (by kernel_rfl) (fun _ _ _ h=>h) (Or.inl ⟨by rfl,fun wx hSw=>?_⟩) (by assumption) ?_
    ·go_simp
    simp only [Act.put,List.setIfInBounds_toArray,List.set_cons_zero,List.set_cons_succ]
    refine kone 14 _ rfl (by kernel_rfl) (fun K hK=>?_)
    go_simp
    refine hK.out _ _ (HPD.out _ (Bt (Bt bW (Ba W1 _)) (Ba _ _))) (fun hHeld=>?_)
    clear hK K hHeld
    try simp only [Act.put,List.setIfInBounds_toArray,List.set_cons_zero,List.set_cons_succ]
    refine kone 15 _ rfl (by kernel_rfl) (fun K hK=>?_)
    refine stepNode2 (some 37) (by rfl) (by rfl) _ _ 31 (by rfl) (gb + 1) 54 Tryz.underlying31 info_node (.slice a1 ls1.length c1) ls1.length (ncs ls1) (by simp [Act.eval,Act.put]) (HOWN.out _ (Bt (Bt bW (Ba _ _)) (Ba _ _))) (W1.heap.size + 1) 2 (⟨3,0,tz,[]⟩,none,0,0) (⟨7,0,⟨#[]⟩,[(ls1.length : Int),(ls.length : Int) + 2 * (q : Int)]⟩,some ⟨W1.heap.size,0,none⟩,2,2) (by simp [Act.eval,Act.put]) (by have:=blk_new (W1.alloc (.cells #[.int .i64 (ls1.length : Int),.int .i64 ((ls.length : Int) + 2 * (q : Int))] 3)) (nc (⟨3,0,tz,[]⟩,none,0,0) ++ nc (⟨7,0,⟨#[]⟩,[(ls1.length : Int),(ls.length : Int) + 2 * (q : Int)]⟩,some ⟨W1.heap.size,0,none⟩,2,2)).toArray 54;rw [size_alloc] at this;exact this) hl1 (by have:=HSZ.out;have:=bW.size;rw [size_alloc,size_alloc];omega) ?_
    intro g7 cap7 w7 ho7 hg7 hl7 hlt7
    have BX : Below wr.heap.size wr ((W1.alloc (.cells #[.int .i64 (ls1.length : Int),.int .i64 ((ls.length : Int) + 2 * (q : Int))] 3)).alloc (.cells #[.int .i64 3,.int .i64 0,.string tz,.slice none 0 0,.int .i64 7,.int .i64 0,.string ⟨#[]⟩,.slice (some ⟨W1.heap.size,0,none⟩) 2 2] 54)):=Bt (Bt bW (Ba _ _)) (Ba _ _)
    have B7 : Below gb W0 w7:=bel_grown (HM1.out.on BX) hg7
    obtain ⟨f7,c7,p7⟩:=put_step HM1.out (Bt (Bt bW (Ba _ _)) (Ba _ _)) bW.size (((Ba (W1.alloc (.cells #[.int .i64 (ls1.length : Int),.int .i64 ((ls.length : Int) + 2 * (q : Int))] 3)) _).block W1.heap.size (by rw [size_alloc];omega)).trans (blk_new W1 _ _)) HI1.out HI2.out HTS.out ho7 hg7 hl7
    have HP7:=hid p7
    have PS7 : PSt gb bl (ol + q) (.slice a1 ls1.length c1) z w7:=⟨c7,by obtain ⟨b',o',e',_,hc'⟩:=(HR.out w7 B7).some (by omega);cases e';rw [HZ.out];exact hc' q hlt⟩
    clear p7 ho7 hg7 hl7 hlt7 B7
    refine hK.out _ _ PS7 (fun hHeld=>?_)
    clear hK K hHeld
    try simp only [Act.put,List.setIfInBounds_toArray,List.set_cons_zero,List.set_cons_succ]
    refine ktake 16 (some 38) (.pointer (some ⟨gb,0,none⟩)) rfl rfl (by kernel_rfl) (by kernel_rfl) (by kernel_rfl) (by kernel_rfl) (fun _ _ _ h=>h) (Or.inl ⟨by rfl,fun wx hSw=>?_⟩) (by assumption) ?_
    ·go_simp
    simp only [Act.put,List.setIfInBounds_toArray,List.set_cons_zero,List.set_cons_succ]
    refine klast _ rfl (by kernel_rfl) (by kernel_rfl) (fun K hK=>?_)
    go_simp
    refine hK.out _ _ ?_
    clear hK K f7 c7
    obtain ⟨z0,z1,z2⟩:=HP7.out.cell
    go_wp2_with fail
    exact ⟨⟨q + 1,by omega,by go_num,by have:=HK1.out;congr 1;omega,⟨_,_,HP7.out,HEQ.out _ _⟩⟩,by simp [intOf] <;> omega⟩
   ·go_simp
    refine hK.out _ _ (HPD.out _ BDK.out) (fun hHeld=>?_)
    clear hK K hHeld
    try simp only [Act.put,List.setIfInBounds_toArray,List.set_cons_zero,List.set_cons_succ]
    have hHeld:=HPD.out _ BDK.out
    refine ktake 13 (some 35) (.agg #[.int .i64 7,.int .i64 0,.string ⟨#[]⟩,.slice (some ⟨wr.heap.size,0,none⟩) 2 2]) rfl rfl (by kernel_rfl) (by kernel_rfl) (by kernel_rfl) (by kernel_rfl) (fun _ _ _ h=>h) (Or.inl ⟨by rfl,fun wx hSw=>?_⟩) (by assumption) ?_
    ·go_simp
    simp only [Act.put,List.setIfInBounds_toArray,List.set_cons_zero,List.set_cons_succ]
    refine kone 6 _ rfl (by kernel_rfl) (fun K hK=>?_)
    go_simp
    with_reducible refine (CD.out _).mono ?_
    rintro e W1 ⟨rfl,b1⟩
    have bW : Below wr.heap.size wr W1:=Bt BDK.out b1
    refine hK.out _ _ (HPD.out W1 bW) (fun hHeld=>?_)
    clear hK K hHeld
    try simp only [Act.put,List.setIfInBounds_toArray,List.set_cons_zero,List.set_cons_succ]
    have hHeld:=HPD.out W1 bW
    refine ktake 7 (some 29) (.agg #[.int .i64 3,.int .i64 0,.string tz,.slice none 0 0]) rfl rfl (by kernel_rfl) (by kernel_rfl) (by kernel_rfl) (by kernel_rfl) (fun _ _ _ h=>h) (Or.inl ⟨by rfl,fun wx hSw=>?_⟩) (by assumption) ?_
    ·go_simp
    simp only [Act.put,List.setIfInBounds_toArray,List.set_cons_zero,List.set_cons_succ]
    refine kone 14 _ rfl (by kernel_rfl) (fun K hK=>?_)
    go_simp
    refine hK.out _ _ (HPD.out _ (Bt bW (Ba W1 _))) (fun hHeld=>?_)
    clear hK K hHeld
    try simp only [Act.put,List.setIfInBounds_toArray,List.set_cons_zero,List.set_cons_succ]
    refine kone 15 _ rfl (by kernel_rfl) (fun K hK=>?_)
    refine stepNode2 (some 37) (by rfl) (by rfl) _ _ 31 (by rfl) (gb + 1) 54 Tryz.underlying31 info_node (.slice a1 ls1.length c1) ls1.length (ncs ls1) (by simp [Act.eval,Act.put]) (HOWN.out _ (Bt bW (Ba _ _))) W1.heap.size 2 (⟨3,0,tz,[]⟩,none,0,0) (⟨7,0,⟨#[]⟩,[(ls1.length : Int),(ls.length : Int) + 2 * (q : Int)]⟩,some ⟨wr.heap.size,0,none⟩,2,2) (by simp [Act.eval,Act.put]) (blk_new W1 (nc (⟨3,0,tz,[]⟩,none,0,0) ++ nc (⟨7,0,⟨#[]⟩,[(ls1.length : Int),(ls.length : Int) + 2 * (q : Int)]⟩,some ⟨wr.heap.size,0,none⟩,2,2)).toArray 54) hl1 (by have:=HSZ.out;have:=bW.size;rw [size_alloc];omega) ?_
    intro g7 cap7 w7 ho7 hg7 hl7 hlt7
    have BX : Below wr.heap.size wr (W1.alloc (.cells #[.int .i64 3,.int .i64 0,.string tz,.slice none 0 0,.int .i64 7,.int .i64 0,.string ⟨#[]⟩,.slice (some ⟨wr.heap.size,0,none⟩) 2 2] 54)):=Bt bW (Ba _ _)
    have B7 : Below gb W0 w7:=bel_grown (HM1.out.on BX) hg7
    obtain ⟨f7,c7,p7⟩:=put_step HM1.out (Bt bW (Ba _ _)) (Nat.le_refl _) (((Ba W1 _).block wr.heap.size (by have:=b1.size;have:=SZK.out;omega)).trans ((b1.block wr.heap.size SZK.out).trans KB.out)) HI1.out HI2.out HTS.out ho7 hg7 hl7
    have HP7:=hid p7
    have PS7 : PSt gb bl (ol + q) (.slice a1 ls1.length c1) z w7:=⟨c7,by obtain ⟨b',o',e',_,hc'⟩:=(HR.out w7 B7).some (by omega);cases e';rw [HZ.out];exact hc' q hlt⟩
    clear p7 ho7 hg7 hl7 hlt7 B7
    refine hK.out _ _ PS7 (fun hHeld=>?_)
    clear hK K hHeld
    try simp only [Act.put,List.setIfInBounds_toArray,List.set_cons_zero,List.set_cons_succ]
    refine ktake 16 (some 38) (.pointer (some ⟨gb,0,none⟩)) rfl rfl (by kernel_rfl) (by kernel_rfl) (by kernel_rfl) (by kernel_rfl) (fun _ _ _ h=>h) (Or.inl ⟨by rfl,fun wx hSw=>?_⟩) (by assumption) ?_
    ·go_simp
    simp only [Act.put,List.setIfInBounds_toArray,List.set_cons_zero,List.set_cons_succ]
    refine klast _ rfl (by kernel_rfl) (by kernel_rfl) (fun K hK=>?_)
    go_simp
    refine hK.out _ _ ?_
    clear hK K f7 c7
    obtain ⟨z0,z1,z2⟩:=HP7.out.cell
    go_wp2_with fail
    exact ⟨⟨q + 1,by omega,by go_num,by have:=HK1.out;congr 1;omega,⟨_,_,HP7.out,HEQ.out _ _⟩⟩,by simp [intOf] <;> omega⟩
  ·obtain rfl : q = n := by omega
   have H9 : Hid (LE gb W0 (ls.map Prod.fst ++ chP ls.length l) wr):=by
    have:=hI.out
    rwa [List.take_of_length_le (by rw [HLN.out];exact Nat.le_refl _)] at this
   clear hM1 hls hI
   go_wp2_with fail
   go_ret
   refine ⟨by simp,H9.out⟩
theorem le_start (w : World) : LE w.heap.size w [] (w.alloc (.cells #[.slice none 0 0,.slice none 0 0] 34)) :=
 ⟨_,[],⟨blk_new _ _ _,NOwn.nil _ _,Ba w _⟩,rfl⟩
theorem gx2_on {W wx wy : World} {p q : Addr} {a0 a1 : Value} (h : wx.cell? p = some a0 /\ wx.cell? q = some a1 /\ Below W.heap.size W wx) (hb : Below wx.heap.size wx wy) : wy.cell? p = some a0 /\ wy.cell? q = some a1 /\ Below W.heap.size W wy :=
 ⟨(hb.cell (p:=p) (cell_ltA h.1)).trans h.1,(hb.cell (p:=q) (cell_ltA h.2.1)).trans h.2.1,Bt h.2.2 hb⟩
theorem gx2_bel {W wx : World} {p q : Addr} {a0 a1 : Value} (h : wx.cell? p = some a0 /\ wx.cell? q = some a1 /\ Below W.heap.size W wx) : Below W.heap.size W wx:=h.2.2
def SmL (l m : List Int) (q : Nat) (b : Bool) : Prop:=b = (decide (l.length = m.length) && decide (l.take q = m.take q))
theorem SmL.start (l m : List Int) : SmL l m 0 (decide (l.length = m.length)):=by unfold SmL;simp
theorem SmL.step {l m : List Int} {q : Nat} (h : SmL l m q true) (hq : q < l.length) : l.length = m.length /\ SmL l m (q + 1) (decide (l.getD q 0 = m.getD q 0)):=by
 unfold SmL at h ⊢
 have h':=h.symm
 rw [Bool.and_eq_true,decide_eq_true_eq,decide_eq_true_eq] at h'
 obtain ⟨h1,h2⟩:=h'
 refine ⟨h1,?_⟩
 rw [decide_eq_true h1,Bool.true_and,take_succ_of 0 hq,take_succ_of 0 (by omega : q < m.length),h2]
 by_cases e : l.getD q 0 = m.getD q 0
 ·rw [e];simp
 ·rw [decide_eq_false e]
  symm
  apply decide_eq_false
  intro h3
  obtain ⟨_,h4⟩:=List.append_inj' h3 rfl
  exact e (List.head_eq_of_cons_eq h4)
theorem SmL.stop {l m : List Int} {q : Nat} {b : Bool} (h : SmL l m q b) (he : b = false \/ l.length <= q) : b = decide (l = m):=by
 by_cases e : l = m
 ·subst e
  rw [decide_eq_true rfl]
  rw [h];simp
 ·rw [decide_eq_false e]
  rcases he with he | he
  ·exact he
  ·cases b
   ·rfl
   ·exfalso
    unfold SmL at h
    have h':=h.symm
    rw [Bool.and_eq_true,decide_eq_true_eq,decide_eq_true_eq] at h'
    apply e
    rw [<- List.take_of_length_le he,h'.2,List.take_of_length_le (by omega)]
set_option maxHeartbeats 32000000 in
theorem equalLists_walk (ao : Option Addr) (n cn : Nat) (l : List Int) (bo : Option Addr) (m cm : Nat) (k : List Int) (w : World) (R : IRow w ao n cn l) (R' : IRow w bo m cm k) (hT : TabsS w) :
  Calls Tryz.prog 8 #[.slice ao n cn,.slice bo m cm] w fun e w'=>e = .returned (.bool true) /\ Below w.heap.size w w':=by
 have HR:=hid R
 have HR':=hid R'
 have HT:=hid hT
 have hl:=R.len
 have hk:=R'.len
 have hf1:=R.fits
 have hm1:=R.most
 have hf2:=R'.fits
 have hm2:=R'.most
 unfold maxLen at hm1 hm2
 have HLl:=hid hl
 have HLk:=hid hk
 by_cases h1 : 15 < n
 ·clear R R' hT hl hk
  go_enter Tryz.func8,Tryz.ntmps8
  go_wp2
  go_ret
  exact ⟨rfl,Below.refl _ _⟩
 by_cases h2 : 15 < m
 ·clear R R' hT hl hk
  go_enter Tryz.func8,Tryz.ntmps8
  go_wp2
  go_ret
  exact ⟨rfl,Below.refl _ _⟩
 have zl : ∀ z∈l,Z64 z:=fun z hz=>by have:=R.bd z hz;unfold I64 at this;unfold Z64;omega
 have zk : ∀ z∈k,Z64 z:=fun z hz=>by have:=R'.bd z hz;unfold I64 at this;unfold Z64;omega
 obtain ⟨m1,m2,m3,m4,m5⟩:=lists_math zl zk (by omega) (by omega)
 rw [hl,hk] at m3 m4 m5
 rw [hl] at m1 m2
 obtain ⟨ns,hns⟩ : ∃ ns,ns = chP 0 l ++ chP (2 * n + 1) k:=⟨_,rfl⟩
 rw [<- hns] at m1 m2 m3 m4 m5
 have CP1 : Hid (∀ W,LE w.heap.size w [] W -> _):=fun W h=>put_any w.heap.size w ao n cn l [] W h (fun wx hb=>R.below hb) (by omega) (by simp)
 have CP2 : Hid (∀ W,LE w.heap.size w (chP 0 l) W -> _):=fun W h=>put_any w.heap.size w bo m cm k (chP 0 l) W h (fun wx hb=>R'.below hb) (by omega) (by rw [chP_len];omega)
 have HL0:=hid (le_start w)
 have e1 : ([] : List Nd).length + 2 * n = 2 * n:=by simp
 have e2 : (chP 0 l).length + 2 * m = 2 * n + 1 + 2 * m:=by rw [chP_len,hl]
 have e3 : ([] : List Nd) ++ chP ([] : List Nd).length l = chP 0 l:=rfl
 have e4 : chP 0 l ++ chP (chP 0 l).length k = ns:=by rw [hns,chP_len,hl]
 rw [e1,e3] at CP1
 rw [e2,e4] at CP2
 obtain ⟨yi,hyi⟩ : ∃ x,x = 2 * n + 1 + 2 * m:=⟨_,rfl⟩
 obtain ⟨xi,hxi⟩ : ∃ x,x = 2 * n:=⟨_,rfl⟩
 rw [<- hyi,<- hxi] at m5
 rw [<- hyi] at CP2
 rw [<- hxi] at CP1
 have HXI:=hid hxi
 have HYI:=hid hyi
 have CL : Hid (∀ W a1 n1 c1,Below w.heap.size w W -> NRow W a1 n1 c1 ns -> Calls Tryz.prog 17 #[.agg #[.slice a1 n1 c1,.slice none 0 0]] W (LaidP ns W)):=fun W a1 n1 c1 hb g=>laid_any a1 none n1 c1 0 0 _ [] W ⟨g,IRow.nil _ _⟩ m1 m2 (by have:=g.len;omega) (hT.below hb)
 have CA : Hid (∀ wx,Below w.heap.size w wx -> Calls Tryz.prog 18 #[] wx fun e w'=>e = .returned (.bool true) /\ Below wx.heap.size wx w'):=fun wx hb=>eawake_any wx (hT.below hb)
 have HTX:=hid (laid_text m1 m2 (by omega))
 unfold LaidP at CL
 obtain ⟨r,hr⟩ : ∃ r,r = laidR ns:=⟨_,rfl⟩
 rw [<- hr] at CL HTX m4 m5
 have M3:=hid m3
 have M5:=hid m5
 obtain ⟨nw,hnw⟩ : ∃ x,x = r.1.length:=⟨_,rfl⟩
 rw [<- hnw] at CL m4
 have HNW:=hid hnw
 obtain ⟨CL1,hCL1⟩ : ∃ x,x = chP 0 l:=⟨_,rfl⟩
 rw [<- hCL1] at CP1 CP2
 have M4:=hid m4
 have hxy1 : xi < nw:=by rw [m4,hxi];omega
 have hxy2 : yi < nw:=by rw [m4,hyi];omega
 have yl : ¬ ((nw : Int) <= (yi : Int)):=by omega
 have nl1 : ¬ ((15 : Int) < (n : Int)):=by omega
 have nl2 : ¬ ((15 : Int) < (m : Int)):=by omega
 clear R R' hT hl hk zl zk m1 m2 m3 m4 m5 hns hr e1 e2 e3 e4 hnw hCL1 hxi hyi
 go_enter Tryz.func8,Tryz.ntmps8
 go_wp2_with (first
  | (go_at_call 27;with_reducible refine (CP1.out _ HL0.out).mono ?_;rintro e W1 ⟨rfl,g1⟩;have G1:=hid g1;clear g1 CP1 HL0))
 go_at_call 27
 with_reducible refine (CP2.out _ G1.out).mono ?_
 rintro e W2 ⟨rfl,v2,ls2,g2,e2⟩
 obtain ⟨a2,c2,e2v,r2⟩:=g2.own.row
 rw [e2] at r2
 obtain ⟨x0,x1,_⟩:=g2.cell
 rw [e2v] at x0
 have B2:=hid g2.bel
 have C3:=hid (CL.out W2 a2 ls2.length c2 g2.bel r2)
 clear g2 e2 r2 G1 CP2
 go_wp2_with (first
  | (go_at_call 17;with_reducible refine C3.out.mono ?_;rintro e W3 ⟨v,g,aw,cap,F,vL,ls,B',rfl,u3,h3,r3,_,_,_,b3⟩;have HU3:=hid u3;have HH3:=hid h3;have B3:=hid (Bt B2.out b3);clear u3 h3 r3 b3 C3))
 obtain ⟨gh,rfl⟩:=HH3.out.ph.ptr
 have HTW3 : Hid (TabsS W3):=HT.out.below B3.out
 have hU:=HU3.out.bd
 have hf3:=HU3.out.fits
 have hm3:=HU3.out.most
 unfold maxLen at hm3
 obtain ⟨bw,ow,rfl,hbw,hcw⟩:=HU3.out.some (by omega)
 have HCX:=hid (hcw xi hxy1)
 have HCY:=hid (hcw yi hxy2)
 have ux : U64 (r.1.getD xi 0):=hU _ (getD_mem0 (by rw [<- HNW.out];exact hxy1))
 have uy : U64 (r.1.getD yi 0):=hU _ (getD_mem0 (by rw [<- HNW.out];exact hxy2))
 have CE : Hid (∀ W,Below W3.heap.size W3 W -> Calls Tryz.prog 22 #[.pointer (some ⟨gh,0,none⟩),.int .u64 (r.1.getD xi 0),.int .u64 (r.1.getD yi 0)] W fun e w'=>e = .returned (.bool (alikeB r.2.2.1 (r.1.getD xi 0) (r.1.getD yi 0))) /\ Below W.heap.size W w'):=fun W hb=>eequal_any _ _ ux uy W (HH3.out.on hb) (HTW3.out.below hb) HTX.out
 rw [M5.out] at CE
 obtain ⟨x,hx⟩ : ∃ x,x = r.1.getD xi 0:=⟨_,rfl⟩
 obtain ⟨y,hy⟩ : ∃ x,x = r.1.getD yi 0:=⟨_,rfl⟩
 rw [<- hx] at HCX CE
 rw [<- hy] at HCY CE
 have HB0:=hid (Below.refl W3.heap.size W3)
 clear hx hy hU hcw ux uy CL HU3 HH3 HTX HTW3 M5 x0 x1
 go_wp2_with fail
 go_loopw [13,14] (fun s i wr=>∃ (q : Nat) (b : Bool),q <= n /\ i = .int .i64 q /\ s = .bool b /\ Hid (SmL l k q b) /\ Hid (Below W3.heap.size W3 wr)) (fun _ i _=>n - (intOf i).toNat)
 case atStart =>
  refine ⟨0,_,Nat.zero_le _,rfl,rfl,?_,HB0.out⟩
  have h9:=SmL.start l k
  rw [HLl.out,HLk.out] at h9
  have e9 : decide (n = m) = ((n : Int) == (m : Int)):=by
   rw [beq_dec]
   by_cases h : n = m
   ·rw [decide_eq_true h,decide_eq_true (by omega)]
   ·rw [decide_eq_false h,decide_eq_false (by omega)]
  rw [e9] at h9
  exact h9
 case round =>
  obtain ⟨q,b,hq,rfl,rfl,hS,hI⟩:=hrel
  by_cases hgo : b = true /\ q < n
  ·obtain ⟨rfl, hlt⟩ := hgo
   obtain ⟨hlm,hS1⟩:=hS.out.step (by rw [HLl.out];exact hlt)
   have HS1:=hid hS1
   have hqm : q < m:=by have:=HLl.out;have:=HLk.out;omega
   obtain ⟨lb,lo,rfl,_,hcl⟩:=(HR.out.below (Bt B3.out hI.out)).some (by omega)
   obtain ⟨kb,ko,rfl,_,hck⟩:=(HR'.out.below (Bt B3.out hI.out)).some (by omega)
   have z0:=hcl q hlt
   have z1:=hck q hqm
   have q0 : (0 : Int) <= (q : Int):=by omega
   have q1 : (q : Int) < (n : Int):=by omega
   have q2 : (q : Int) < (m : Int):=by omega
   obtain ⟨lx,hlx⟩ : ∃ x,x = l.getD q 0:=⟨_,rfl⟩
   obtain ⟨kx,hkx⟩ : ∃ x,x = k.getD q 0:=⟨_,rfl⟩
   rw [<- hlx] at z0 HS1
   rw [<- hkx] at z1 HS1
   clear hcl hck hlm hS1 hlx hkx
   go_wp2_with fail
   go_region
   go_wp2_with fail
   exact ⟨⟨q + 1,_,by omega,by go_num,rfl,HS1.out,Bt hI.out (Bd wr 1)⟩,by simp [intOf] <;> omega⟩
  ·have hb9 : b = decide (l = k) := hS.out.stop (by
    cases b
    ·exact .inl rfl
    ·right;rw [HLl.out];exact Nat.le_of_not_lt (fun h=>hgo ⟨rfl,h⟩))
   rw [<- hb9] at CE
   have z0:=(hI.out.cell (p:=⟨bw,ow + xi,none⟩) (cell_ltA HCX.out)).trans HCX.out
   have z1:=(hI.out.cell (p:=⟨bw,ow + yi,none⟩) (cell_ltA HCY.out)).trans HCY.out
   have HS0 : Hid (wr.cell? ⟨bw,ow + xi,none⟩ = some (.int .u64 x) /\ wr.cell? ⟨bw,ow + yi,none⟩ = some (.int .u64 y) /\ Below W3.heap.size W3 wr):=⟨z0,z1,hI.out⟩
   have x0 : (0 : Int) <= (xi : Int):=by omega
   have x1 : (xi : Int) < (nw : Int):=by omega
   have y0 : (0 : Int) <= (yi : Int):=by omega
   have y1 : (yi : Int) < (nw : Int):=by omega
   have bb : (b == b) = true:=by simp
   have CA9 : Hid (∀ wx,Below W3.heap.size W3 wx -> Calls Tryz.prog 18 #[] wx fun e w'=>e = .returned (.bool true) /\ Below wx.heap.size wx w'):=fun wx hb=>CA.out wx (Bt B3.out hb)
   have hqn : ¬ (b = true /\ (q : Int) < (n : Int)):=fun h=>hgo ⟨h.1,by omega⟩
   clear hb9 z0 z1
   cases b
   ·go_wp2_with fail
    go_region_held3 (fun wx=>wx.cell? ⟨bw,ow + xi,none⟩ = some (.int .u64 x) /\ wx.cell? ⟨bw,ow + yi,none⟩ = some (.int .u64 y) /\ Below W3.heap.size W3 wx)
     (first | exact gx2_on HS0.out (Bd wr 1) | exact gx2_on (by assumption) (by assumption))
     (first
      | (go_at_call 22;with_reducible refine (CE.out _ ?_).mono ?_;(exact gx2_bel (by assumption));rintro e wc ⟨rfl,bc⟩)
      | (go_at_call 18;with_reducible refine (CA9.out _ ?_).mono ?_;(exact gx2_bel (by assumption));rintro e wd ⟨rfl,bd⟩))
    all_goals (try go_wp2)
    all_goals (go_ret;refine ⟨rfl,?_⟩)
    all_goals exact Bt B3.out (gx2_bel (p:=⟨bw,ow + xi,none⟩) (q:=⟨bw,ow + yi,none⟩) (by assumption))
   ·have hqn' : ¬ ((q : Int) < (n : Int)) := fun h => hqn ⟨rfl, h⟩
    go_wp2_with fail
    go_region_held3 (fun wx=>wx.cell? ⟨bw,ow + xi,none⟩ = some (.int .u64 x) /\ wx.cell? ⟨bw,ow + yi,none⟩ = some (.int .u64 y) /\ Below W3.heap.size W3 wx)
     (first | exact gx2_on HS0.out (Bd wr 1) | exact gx2_on (by assumption) (by assumption))
     (first
      | (go_at_call 22;with_reducible refine (CE.out _ ?_).mono ?_;(exact gx2_bel (by assumption));rintro e wc ⟨rfl,bc⟩)
      | (go_at_call 18;with_reducible refine (CA9.out _ ?_).mono ?_;(exact gx2_bel (by assumption));rintro e wd ⟨rfl,bd⟩))
    all_goals (try go_wp2)
    all_goals (go_ret;refine ⟨rfl,?_⟩)
    all_goals exact Bt B3.out (gx2_bel (p:=⟨bw,ow + xi,none⟩) (q:=⟨bw,ow + yi,none⟩) (by assumption))
end Go.Proofs.YticimejfjjmikaaGreatDoor
