import Derived.Test.YticimejfjjmikaaGreatDoorSL31
set_option linter.unusedVariables false
set_option linter.unusedSimpArgs false
set_option maxRecDepth 100000
namespace Go.Proofs.YticimejfjjmikaaGreatDoor
open Go.RowKit
structure POw (b : Nat) (w0 : World) (v vn vW : Value) (w : World) (vo vW' : Value) (n : Nat) (o Q mq : List Int) (w1 : World) : Prop where
 lt : b + 2 <= w.heap.size
 sh : SH b w0 v vn vW' Q mq w1
 oth : Oth b vW w w1
 own : w1.ownsRow w.heap.size 3 1 vo n (iz o)
 blk : ∀ k,vW'.ownBlock = some k -> vW.ownBlock = some k \/ w.heap.size <= k
 ne : ∀ k,vo.ownBlock = some k -> vW'.ownBlock ≠ some k
section
variable {b n : Nat} {w0 w w1 w2 : World} {v vn vW vo vW' : Value} {o Q mq : List Int}
theorem POw.on (h : POw b w0 v vn vW w vo vW' n o Q mq w1) (hb : Below w1.heap.size w1 w2) : POw b w0 v vn vW w vo vW' n o Q mq w2 :=
 ⟨h.lt,h.sh.on hb,h.oth.trans (Oth.of_below (vW:=vW) hb) (fun _ _ e=>e),uown_on h.own hb,h.blk,h.ne⟩
theorem POw.turn {mq' : List Int} (h : POw b w0 v vn vW w vo vW' n o Q mq w1) (hg : w1.grownBy w2 (some b)) (hm : MapW w2 b mq') : POw b w0 v vn vW w vo vW' n o Q mq' w2:=by
 obtain ⟨h1,h2⟩:=h.sh.turn hg hm
 have hl:=h.lt
 refine ⟨h.lt,h1,h.oth.trans h2 (fun j hj e=>?_),own_at h.own (fun k e=>?_),h.blk,h.ne⟩
 ·rcases h.blk j e with e | e
  ·exact e
  ·omega
 ·have := h.own.lt k e
  exact h2.blk k this.2 (by omega) (by omega) (h.ne k e)
theorem POw.push {Q' : List Int} {g cap m : Nat} (h : POw b w0 v vn vW w vo vW' n o Q mq w1) (hn : Q'.length = m) (ho : w2.ownsRow (b + 2) 44 1 (.slice (some ⟨g,0,none⟩) m cap) m (uz Q')) (hg : w1.grownBy w2 vW'.ownBlock) (hl : vW'.ownBlock = some g \/ g = w1.heap.size) :
  POw b w0 v vn vW w vo (.slice (some ⟨g,0,none⟩) m cap) n o Q' mq (w2.setCell ⟨b + 1,2,none⟩ (.slice (some ⟨g,0,none⟩) m cap)) /\ w2.cell? ⟨b + 1,2,none⟩ = some vW' /\ w2.frozen? ⟨b + 1,2,none⟩ = false:=by
 obtain ⟨h1,h2,h3,h4⟩:=h.sh.push hn ho hg hl
 have hlt:=h.lt
 have hsz:=h.oth.size
 refine ⟨⟨h.lt,h1,h.oth.trans h2 (fun j hj e=>?_),own_at h.own (fun k e=>?_),fun k e=>?_,fun k e e'=>?_⟩,h3,h4⟩
 ·rcases h.blk j e with e | e
  ·exact e
  ·omega
 ·have := h.own.lt k e
  exact h2.blk k this.2 (by omega) (by omega) (h.ne k e)
 ·have e' : g = k := Option.some.inj e
  subst e'
  rcases hl with e2 | e2
  ·exact h.blk g e2
  ·exact .inr (by omega)
 ·have e2 : g = k := Option.some.inj e'
  subst e2
  rcases hl with e2 | e2
  ·exact h.ne g e e2
  ·have:=(h.own.lt g e).2;omega
theorem POw.grow {o' : List Int} {g cap m : Nat} (h : POw b w0 v vn vW w vo vW' n o Q mq w1) (ho : w2.ownsRow w.heap.size 3 1 (.slice (some ⟨g,0,none⟩) m cap) m (iz o')) (hg : w1.grownBy w2 vo.ownBlock) (hl : vo.ownBlock = some g \/ g = w1.heap.size) :
  POw b w0 v vn vW w (.slice (some ⟨g,0,none⟩) m cap) vW' m o' Q mq w2:=by
 have hlt:=h.lt
 have hsz:=h.oth.size
 have hs2:=h.sh.lt
 have hge : ∀ k,vo.ownBlock = some k -> w.heap.size <= k:=fun k e=>(h.own.lt k e).1
 have hk : ∀ k,k < w1.heap.size -> vo.ownBlock ≠ some k -> w2.heap[k]? = w1.heap[k]?:=fun k hk hne=>hg.block k hk (fun e=>hne e.symm)
 have hlow : ∀ k,k < w.heap.size -> w2.heap[k]? = w1.heap[k]?:=fun k hkb=>hk k (by omega) (fun e=>by have:=hge k e;omega)
 refine ⟨h.lt,⟨h.sh.bel.trans ⟨hg.os,hg.tape,hg.output,hg.size,fun k hk'=>hlow k (by omega)⟩,(hlow _ (by omega)).trans h.sh.box,h.sh.mp.frame (hlow _ (by omega)),own_at h.sh.ow (fun k e=>?_)⟩,⟨Nat.le_trans hsz hg.size,fun k h1 h2 h3 h4=>(hlow k h1).trans (h.oth.blk k h1 h2 h3 h4)⟩,ho,h.blk,fun k e e'=>?_⟩
 ·exact hk k (h.sh.ow.lt k e).2 (fun e'=>h.ne k e' e)
 ·have e2 : g = k := Option.some.inj e
  subst e2
  rcases hl with e2 | e2
  ·exact h.ne g e2 e'
  ·have:=(h.sh.ow.lt g e').2;omega
end
def PLPost (b : Nat) (w0 : World) (v vn vW : Value) (W l : List Int) (nl : Nat) (w : World) (e : Ending) (w' : World) : Prop :=
 ∃ vo vW',e = .returned vo /\ POw b w0 v vn vW w vo vW' nl (plL W l) (metW W l) (metW W l) w'
theorem met_len : ∀ (l W : List Int),(metW W l).length <= W.length + l.length
 | [],W=>by simp [metW]
 | x :: l,W=>by
  have h1:=met_len l (meetW W x)
  have h2 : (meetW W x).length <= W.length + 1:=by unfold meetW;split <;> simp
  have e : metW W (x :: l) = metW (meetW W x) l:=rfl
  rw [e];simp;omega
section
variable {b : Nat} {w0 : World} {v vn vW : Value} {W : List Int}
set_option maxHeartbeats 8000000 in
theorem places_any (al : Option Addr) (nl cl : Nat) (l : List Int) (w : World) (h : SH b w0 v vn vW W W w) (K : ∀ wx,Oth b vW w wx -> URow wx al nl cl l) (hlen : W.length + nl <= 100000) :
  Calls Tryz.prog 38 #[.pointer (some ⟨b + 1,0,none⟩),.slice al nl cl] w (PLPost b w0 v vn vW W l nl w):=by
 have hR:=K w ⟨Nat.le_refl _,fun k _ _ _ _=>rfl⟩
 have hf:=hR.fits
 have hm:=hR.most
 unfold maxLen at hm
 have HL:=hid hR.len
 have HU:=hid hR.bd
 have HK:=hid K
 have HP0 : Hid (POw b w0 v vn vW w (.slice none 0 0) vW 0 (plL W (l.take 0)) (metW W (l.take 0)) (metW W (l.take 0)) w):=by
  refine ⟨h.lt,?_,⟨Nat.le_refl _,fun k _ _ _ _=>rfl⟩,?_,fun k e=>.inl e,fun k e=>by cases e⟩
  ·simpa [metW] using h
  ·simpa [plL,iz] using World.ownsRow_nil w w.heap.size 3 1
 have hlw:=hid hlen
 clear hR K h hlen
 go_enter Tryz.func38,Tryz.ntmps38
 go_wp2_with fail
 go_loopw [5,7,8,9,12] (fun vo _ _ _ i wr=>∃ q : Nat,q <= nl /\ i = .int .i64 q /\ Hid (∃ vW',POw b w0 v vn vW w vo vW' q (plL W (l.take q)) (metW W (l.take q)) (metW W (l.take q)) wr)) (fun _ _ _ _ i _=>nl - (intOf i).toNat)
 case atStart=>exact ⟨0,Nat.zero_le _,rfl,vW,HP0.out⟩
 case round =>
  obtain ⟨q,hq,rfl,HI0⟩:=hrel
  obtain ⟨vW',hI⟩:=HI0.out
  have HI:=hid hI
  clear HI0
  by_cases hlt : q < nl
  ·have hql : q < l.length := by rw [HL.out]; exact hlt
   have hR:=HK.out wr hI.oth
   obtain ⟨bl,ol,ela,hlb,hc⟩:=hR.some (by omega)
   have hcx:=hc q hlt
   subst ela
   have hxu : U64 (l.getD q 0):=HU.out _ (getD_in_f hql)
   have HM1:=hid (metW_take (W:=W) hql)
   have HM2:=hid (plL_take (W:=W) hql)
   have hml:=met_len (l.take q) W
   rw [List.length_take,Nat.min_eq_left (by omega)] at hml
   have hml2 : (metW W (l.take q)).length <= 100000:=by have:=hlw.out;omega
   obtain ⟨x,hx⟩ : ∃ x,x = l.getD q 0:=⟨_,rfl⟩
   rw [<- hx] at hcx hxu HM1 HM2
   obtain ⟨Q,hQ⟩ : ∃ x,x = metW W (l.take q):=⟨_,rfl⟩
   rw [<- hQ] at HI HM1 hI hml2
   obtain ⟨o,ho⟩ : ∃ x,x = plL W (l.take q):=⟨_,rfl⟩
   rw [<- ho] at HI HM2 hI
   have c3 : wr.cell? ⟨b + 1,3,none⟩ = some (.map (some b)):=blk_cell hI.sh.box 3
   obtain ⟨c,hrun,hci⟩:=hI.sh.mp.look_ok hxu
   have HXU:=hid hxu
   obtain ⟨av,cv,rfl,hvc,hvm⟩:=slice_form hI.own
   by_cases hmem : x∈Q
   ·obtain rfl := hci hmem
    rw [decide_eq_true hmem] at hrun
    have HQE : Hid (meetW Q x = Q):=by unfold Hid meetW;rw [if_pos hmem]
    rw [HQE.out] at HM1
    obtain ⟨ix,hix⟩ : ∃ i : Nat,i = Q.idxOf x:=⟨_,rfl⟩
    rw [HM1.out,<- hix] at HM2
    rw [<- hix] at hrun
    have HA:=hid (HI.out.on (Ba wr (.cells #[.int .i64 (ix : Nat)] 3)))
    have HC : Hid ((wr.alloc (.cells #[.int .i64 (ix : Nat)] 3)).cell? ⟨wr.heap.size,0,none⟩ = some (.int .i64 (ix : Nat))):=blk_cell (blk_new wr #[.int .i64 (ix : Nat)] 3) 0
    have HZ:=hid HA.out.oth.size
    have hq1 : q <= 10000000:=by have:=hlw.out;omega
    clear hR hlb hc hx hQ ho hxu hI hci hmem hix hvc hvm hml hml2 hql
    go_wp2_with (at_builtin;refine appi rfl _ _ 32 rfl w.heap.size 3 Tryz.underlying32 info_iz _ q o rfl HA.out.own ⟨wr.heap.size,0,none⟩ 1 (ix : Nat) rfl HC.out hq1 HZ.out ?_;intro g cap w4 ho4 hg4 hl4 hlt4;have HP4:=hid (HA.out.grow ho4 hg4 hl4);clear ho4 hg4 hl4 hlt4)
    refine ⟨⟨q + 1,by omega,by go_num,vW',?_⟩,by simp [intOf] <;> omega⟩
    rw [HM1.out,HM2.out]
    exact HP4.out
   ·rw [decide_eq_false hmem] at hrun
    have HQE : Hid (meetW Q x = Q ++ [x]):=by unfold Hid meetW;rw [if_neg hmem]
    rw [HQE.out] at HM1
    have hidx : (Q ++ [x]).idxOf x = Q.length:=by rw [List.idxOf_append,if_neg hmem];simp
    rw [HM1.out,hidx] at HM2
    obtain ⟨W2,hst,hm2,hg2⟩:=hI.sh.mp.store hxu hmem (by omega)
    have h2:=hI.turn hg2 hm2
    obtain ⟨aW,cW,rfl,hwc,hwm⟩:=slice_form hI.sh.ow
    have c2 : wr.cell? ⟨b + 1,2,none⟩ = some (.slice aW Q.length cW):=blk_cell hI.sh.box 2
    have d2 : W2.cell? ⟨b + 1,2,none⟩ = some (.slice aW Q.length cW):=blk_cell h2.sh.box 2
    have h3:=h2.on (Ba W2 (.cells #[.int .u64 x] 44))
    have HQ3:=hid h3
    have HW3:=hid h3.sh.ow
    have HZ3 : Hid (b + 2 <= (W2.alloc (.cells #[.int .u64 x] 44)).heap.size):=Nat.le_trans h3.lt h3.oth.size
    have HC3 : Hid ((W2.alloc (.cells #[.int .u64 x] 44)).cell? ⟨W2.heap.size,0,none⟩ = some (.int .u64 x)):=blk_cell (blk_new W2 #[.int .u64 x] 44) 0
    have HLQ : Hid ((Q ++ [x]).length = Q.length + 1):=List.length_append
    obtain ⟨nQ,hnQ⟩ : ∃ i : Nat,i = Q.length:=⟨_,rfl⟩
    rw [<- hnQ] at c2 d2 hst HM2 HW3 hwc hml2 HLQ HQ3
    have hq1 : q <= 10000000:=by have:=hlw.out;omega
    have hn1 : nQ <= 10000000:=by omega
    have arm : Hid (∀ W6 vW6,POw b w0 v vn vW w (.slice av q cv) vW6 q o (Q ++ [x]) (Q ++ [x]) W6 -> POw b w0 v vn vW w (.slice av q cv) vW6 q o (Q ++ [x]) (Q ++ [x]) (W6.alloc (.cells #[.int .i64 (nQ : Nat)] 3)) /\ (W6.alloc (.cells #[.int .i64 (nQ : Nat)] 3)).cell? ⟨W6.heap.size,0,none⟩ = some (.int .i64 (nQ : Nat)) /\ w.heap.size <= (W6.alloc (.cells #[.int .i64 (nQ : Nat)] 3)).heap.size):=fun W6 vW6 h6 =>
     ⟨h6.on (Ba W6 _),blk_cell (blk_new W6 #[.int .i64 (nQ : Nat)] 3) 0,(h6.on (Ba W6 (.cells #[.int .i64 (nQ : Nat)] 3))).oth.size⟩
    clear hR hlb hc hx hQ ho hxu hI hci hmem hvc hvm hml hml2 hql hidx hm2 hg2 h2 h3 hnQ hwc hwm
    go_wp2_with (first
     | (at_builtin;refine appW rfl _ _ 23 rfl (b + 2) 44 Tryz.underlying23 info_word _ nQ Q rfl HW3.out ⟨W2.heap.size,0,none⟩ 1 x rfl HC3.out hn1 HZ3.out ?_;intro g5 cap5 w5 ho5 hg5 hl5 hlt5;obtain ⟨p5,e5,f5⟩:=HQ3.out.push HLQ.out ho5 hg5 hl5;obtain ⟨p6,e6,z6⟩:=arm.out _ _ p5;have hsz5 : (w5.setCell ⟨b + 1,2,none⟩ (.slice (some ⟨g5,0,none⟩) (nQ + 1) cap5)).heap.size = w5.heap.size:=(by simp [World.setCell]);rw [hsz5] at e6;have HP6:=hid p6;have HC6:=hid e6;have HZ6:=hid z6;clear ho5 hg5 hl5 hlt5 p5 p6 e6 z6 hsz5)
     | (at_builtin;refine appi rfl _ _ 32 rfl w.heap.size 3 Tryz.underlying32 info_iz _ q o rfl HP6.out.own ⟨w5.heap.size,0,none⟩ 1 (nQ : Nat) rfl HC6.out hq1 HZ6.out ?_;intro g7 cap7 w7 ho7 hg7 hl7 hlt7;have HP7:=hid (HP6.out.grow ho7 hg7 hl7);clear ho7 hg7 hl7 hlt7))
    refine ⟨⟨q + 1,by omega,by go_num,.slice (some ⟨g5,0,none⟩) (nQ + 1) cap5,?_⟩,by simp [intOf] <;> omega⟩
    rw [HM1.out,HM2.out]
    exact HP7.out
  ·obtain rfl : nl = q := by omega
   have h2:=hI
   rw [List.take_of_length_le (by rw [HL.out];exact Nat.le_refl _)] at h2
   have HF : Hid (PLPost b w0 v vn vW W l nl w (.returned u5) wr):=⟨u5,vW',rfl,h2⟩
   clear h2 hI HI
   go_wp2_with fail
   go_ret
   exact HF.out
end
theorem nodup_sub : ∀ (W L : List Int),W.Nodup -> (∀ x∈W,x∈L) -> W.length <= L.length
 | [],L,_,_=>Nat.zero_le _
 | x :: W,L,hn,hs=>by
  obtain ⟨h1,h2⟩:=List.nodup_cons.1 hn
  have hx : x∈L:=hs x List.mem_cons_self
  have ih:=nodup_sub W (L.erase x) h2 (fun y hy=>(List.mem_erase_of_ne (fun e=>h1 (by rw [<- e];exact hy))).2 (hs y (List.mem_cons_of_mem _ hy)))
  rw [List.length_erase_of_mem hx] at ih
  have : 0 < L.length:=List.length_pos_of_mem hx
  simp;omega
theorem getD_pre {a c : List Int} {i : Nat} (h : a <+: c) (hi : i < a.length) : c.getD i 0 = a.getD i 0:=by
 obtain ⟨d,rfl⟩:=h
 rw [List.getD_eq_getElem?_getD,List.getD_eq_getElem?_getD,List.getElem?_append_left hi]
theorem getD_idx {a : List Int} {x : Int} (h : x∈a) : a.getD (a.idxOf x) 0 = x:=by
 have hl:=List.idxOf_lt_length_iff.2 h
 rw [List.getD_eq_getElem?_getD,List.getElem?_eq_getElem hl]
 simp
theorem pl_rng {W l : List Int} {k : Int} (h : k∈plL W l) : 0 <= k /\ k < (metW W l).length:=by
 unfold plL at h
 obtain ⟨x,hx,rfl⟩:=List.mem_map.1 h
 have:=List.idxOf_lt_length_iff.2 (met_mem (W:=W) hx)
 omega
theorem pl_map (W l : List Int) : (plL W l).map (fun k=>(metW W l).getD k.toNat 0) = l:=by
 unfold plL
 rw [List.map_map]
 conv=>rhs;rw [<- List.map_id l]
 refine List.map_congr_left (fun x hx=>?_)
 show (metW W l).getD (((metW W l).idxOf x : Nat) : Int).toNat 0 = x
 rw [Int.toNat_natCast]
 exact getD_idx (met_mem hx)
theorem pl_len (W l : List Int) : (plL W l).length = l.length:=by simp [plL]
structure MI (D : Int -> Nd) (rts W rs : List Int) (ns : List Nd) : Prop where
 nd : W.Nodup
 u : ∀ x∈W,U64 x
 rch : ∀ x∈W,Rch D rts x
 len : ns.length <= W.length
 node : ∀ i,i < ns.length -> sameA (ns.getD i default) (D (W.getD i 0))
 kids : ∀ i,i < ns.length -> (ns.getD i default).kids.map (fun k=>W.getD k.toNat 0) = (D (W.getD i 0)).kids
 kr : ∀ i,i < ns.length -> ∀ k∈(ns.getD i default).kids,0 <= k /\ k < W.length
 rts : rs.map (fun k=>W.getD k.toNat 0) = rts
 rr : ∀ k∈rs,0 <= k /\ k < W.length
section
variable {D : Int -> Nd} {rts W rs : List Int} {ns : List Nd}
theorem MI.start (D : Int -> Nd) (rts : List Int) (hu : ∀ x∈rts,U64 x) : MI D rts (metW [] rts) (plL [] rts) []:=by
 have hs : ∀ x∈metW [] rts,x∈rts:=fun x hx=>by
  rcases met_sub hx with h | h
  ·cases h
  ·exact h
 exact ⟨met_nodup _ List.nodup_nil,fun x hx=>hu x (hs x hx),fun x hx=>.root (hs x hx),Nat.zero_le _,fun i hi=>by simp at hi,fun i hi=>by simp at hi,fun i hi=>by simp at hi,pl_map _ _,fun k hk=>pl_rng hk⟩
theorem map_pre {W W' l : List Int} (h : W <+: W') (hr : ∀ k∈l,0 <= k /\ k < (W.length : Int)) : l.map (fun k=>W'.getD k.toNat 0) = l.map (fun k=>W.getD k.toNat 0) :=
 List.map_congr_left (fun k hk=>getD_pre h (by have:=hr k hk;omega))
theorem snoc_getD_l {ns : List Nd} {d : Nd} {i : Nat} (h : i < ns.length) : (ns ++ [d]).getD i default = ns.getD i default:=by
 rw [List.getD_eq_getElem?_getD,List.getD_eq_getElem?_getD,List.getElem?_append_left h]
theorem snoc_getD_r (ns : List Nd) (d : Nd) : (ns ++ [d]).getD ns.length default = d:=by
 rw [List.getD_eq_getElem?_getD,List.getElem?_append_right (Nat.le_refl _),Nat.sub_self];rfl
theorem MI.step (h : MI D rts W rs ns) (hl : ns.length < W.length) {d : Nd} (hd : sameA d (D (W.getD ns.length 0))) (hk : d.kids = plL W (D (W.getD ns.length 0)).kids) (hu : ∀ y∈(D (W.getD ns.length 0)).kids,U64 y) :
  MI D rts (metW W (D (W.getD ns.length 0)).kids) rs (ns ++ [d]):=by
 have hp : W <+: metW W (D (W.getD ns.length 0)).kids:=met_pre _ _
 have hpl:=hp.length_le
 have hx : W.getD ns.length 0∈W:=getD_mem_w hl
 refine ⟨met_nodup _ h.nd,fun x hx=>?_,fun x hx'=>?_,by rw [List.length_append,List.length_singleton];omega,fun i hi=>?_,fun i hi=>?_,fun i hi k hk'=>?_,(map_pre hp h.rr).trans h.rts,fun k hk=>by have:=h.rr k hk;omega⟩
 ·rcases met_sub hx with e | e
  ·exact h.u x e
  ·exact hu x e
 ·rcases met_sub hx' with e | e
  ·exact h.rch x e
  ·exact .kid (h.rch _ hx) e
 ·rw [List.length_append, List.length_singleton] at hi
  rw [getD_pre hp (by omega)]
  by_cases e : i < ns.length
  ·rw [snoc_getD_l e];exact h.node i e
  ·obtain rfl : i = ns.length := by omega
   rw [snoc_getD_r];exact hd
 ·rw [List.length_append, List.length_singleton] at hi
  rw [getD_pre hp (by omega)]
  by_cases e : i < ns.length
  ·rw [snoc_getD_l e,map_pre hp (h.kr i e)];exact h.kids i e
  ·obtain rfl : i = ns.length := by omega
   rw [snoc_getD_r,hk];exact pl_map _ _
 ·rw [List.length_append, List.length_singleton] at hi
  by_cases e : i < ns.length
  ·rw [snoc_getD_l e] at hk';have:=h.kr i e k hk';omega
  ·obtain rfl : i = ns.length := by omega
   rw [snoc_getD_r,hk] at hk';exact pl_rng hk'
theorem MI.told (h : MI D rts W rs ns) (hl : ns.length = W.length) : Told D rts W ns rs:=by
 refine ⟨hl.symm,h.node,h.kids,fun i hi k hk=>by rw [hl];exact h.kr i hi k hk,h.rts,fun k hk=>by rw [hl];exact h.rr k hk,fun i j hi hj e=>.inl ?_⟩
 rw [List.getD_eq_getElem?_getD,List.getD_eq_getElem?_getD,List.getElem?_eq_getElem (by omega),List.getElem?_eq_getElem (by omega)] at e
 exact nodup_idx h.nd (by omega) (by omega) (by simpa using e)
theorem MI.le (h : MI D rts W rs ns) {L : List Int} (hL : ∀ x,Rch D rts x -> x∈L) : W.length <= L.length:=nodup_sub W L h.nd (fun x hx=>hL x (h.rch x hx))
theorem MI.klen (h : MI D rts W rs ns) {i : Nat} (hi : i < ns.length) : (ns.getD i default).kids.length = (D (W.getD i 0)).kids.length:=by
 rw [<- h.kids i hi,List.length_map]
theorem MI.fine (h : MI D rts W rs ns) (hl : ns.length = W.length) (hok : ∀ x,okD (D x) = true) {L : List Int} (hL : ∀ x,Rch D rts x -> x∈L) (hll : L.length <= 2400) (hk : ∀ x∈L,(D x).kids.length <= 100 /\ (D x).text.size <= 2000) : Fine ns rs 300001 /\ smallG ns:=by
 have hle:=h.le hL
 have key : ∀ d∈ns,d.kids.length <= 100 /\ d.text.size <= 2000:=fun d hd=>by
  obtain ⟨i,hi,rfl⟩:=List.getElem_of_mem hd
  have e : ns.getD i default = ns[i]:=by rw [List.getD_eq_getElem?_getD,List.getElem?_eq_getElem hi];rfl
  have h1:=h.klen hi
  have h2:=(h.node i hi).2.2
  have h3:=hk _ (hL _ (h.rch _ (getD_mem_w (i:=i) (by omega))))
  rw [e] at h1 h2
  rw [h1,h2];exact h3
 exact ⟨⟨(h.told hl).good (fun x _=>hok x),fun d hd=>(key d hd).1,by omega,by omega⟩,fun d hd=>(key d hd).2⟩
end
theorem ok_nd {d : Nd} (h : okD d = true) (ht : d.text.size <= 2000) : NdOk d:=by
 unfold okD at h
 rw [Bool.and_eq_true,Bool.and_eq_true,Bool.and_eq_true,Bool.and_eq_true,decide_eq_true_eq,decide_eq_true_eq] at h
 obtain ⟨⟨⟨⟨h1,h2⟩,h3⟩,_⟩,_⟩:=h
 refine ⟨by unfold I64;omega,?_,by unfold maxLen;omega⟩
 unfold numB at h3
 split at h3
 ·rw [Bool.or_eq_true,decide_eq_true_eq,decide_eq_true_eq] at h3;unfold I64;omega
 ·split at h3
  ·unfold letB at h3;simp at h3;unfold I64;omega
  ·split at h3
   ·rw [Bool.and_eq_true,decide_eq_true_eq,decide_eq_true_eq] at h3;unfold I64;omega
   ·rw [decide_eq_true_eq] at h3;unfold I64;omega
theorem own_base {w : World} {base base' : Nat} {e : TypeId} {k : Nat} {v : Value} {n : Nat} {xs : List Value} (h : w.ownsRow base e k v n xs) (hb : base' <= base) : w.ownsRow base' e k v n xs:=by
 refine ⟨h.1,?_⟩
 rcases h.2 with h0 | ⟨g,cap,cur,h1,h2,h3,h4⟩
 ·exact .inl h0
 ·exact .inr ⟨g,cap,cur,h1,Nat.le_trans hb h2,h3,h4⟩
structure QS (b : Nat) (w0 : World) (v vn vo vW vN : Value) (go nr : Nat) (rs W : List Int) (xs : List (Nd × (Option Addr × Nat × Nat))) (w : World) : Prop where
 sh : SH b w0 v vn vW W W w
 gb : b + 2 <= go
 box : w.heap[go]? = some (.cells #[vN,vo] 34 (0,0))
 ro : w.ownsRow (b + 2) 3 1 vo nr (iz rs)
 rob : ∀ k,vo.ownBlock = some k -> k < go
 nodes : NOwn (go + 1) w vN xs
 wgo : vW.ownBlock ≠ some go
 wro : ∀ k,vo.ownBlock = some k -> vW.ownBlock ≠ some k
 wn : ∀ k,vN.ownBlock = some k -> vW.ownBlock ≠ some k
 wk : ∀ x∈xs,∀ ad,x.2.1 = some ad -> vW.ownBlock ≠ some ad.block
section
variable {b go nr : Nat} {w0 w w' : World} {v vn vo vW vN vW' : Value} {rs W W' : List Int} {xs : List (Nd × (Option Addr × Nat × Nat))}
theorem QS.glt (h : QS b w0 v vn vo vW vN go nr rs W xs w) : go < w.heap.size:=(Array.getElem?_eq_some_iff.1 h.box).1
theorem QS.move (h : QS b w0 v vn vo vW vN go nr rs W xs w) (hsh : SH b w0 v vn vW' W' W' w') (hsz : w.heap.size <= w'.heap.size) (hk : ∀ k,k < w.heap.size -> k ≠ b -> k ≠ b + 1 -> vW.ownBlock ≠ some k -> w'.heap[k]? = w.heap[k]?) (hb : ∀ k,vW'.ownBlock = some k -> vW.ownBlock = some k \/ w.heap.size <= k) :
  QS b w0 v vn vo vW' vN go nr rs W' xs w':=by
 have hg:=h.gb
 have hgl:=h.glt
 refine ⟨hsh,h.gb,(hk go hgl (by omega) (by omega) h.wgo).trans h.box,own_at h.ro (fun k e=>?_),h.rob,⟨own_at h.nodes.own (fun k e=>?_),fun x hx=>⟨(h.nodes.kids x hx).1.frame hsz (fun ad e=>?_),fun ad e=>?_⟩,h.nodes.ok⟩,fun e=>?_,fun k e e'=>?_,fun k e e'=>?_,fun x hx ad e e'=>?_⟩
 ·have := h.ro.lt k e
  exact hk k this.2 (by omega) (by omega) (h.wro k e)
 ·have := h.nodes.own.lt k e
  exact hk k this.2 (by omega) (by omega) (h.wn k e)
 ·have := (h.nodes.kids x hx).2 ad e
  exact hk ad.block this.2.1 (by omega) (by omega) (h.wk x hx ad e)
 ·have := (h.nodes.kids x hx).2 ad e
  exact ⟨this.1,Nat.lt_of_lt_of_le this.2.1 hsz,this.2.2⟩
 ·rcases hb go e with e | e
  ·exact h.wgo e
  ·omega
 ·rcases hb k e' with e' | e'
  ·exact h.wro k e e'
  ·have:=(h.ro.lt k e).2;omega
 ·rcases hb k e' with e' | e'
  ·exact h.wn k e e'
  ·have:=(h.nodes.own.lt k e).2;omega
 ·rcases hb _ e' with e' | e'
  ·exact h.wk x hx ad e e'
  ·have:=((h.nodes.kids x hx).2 ad e).2.1;omega
theorem QS.on (h : QS b w0 v vn vo vW vN go nr rs W xs w) (hb : Below w.heap.size w w') : QS b w0 v vn vo vW vN go nr rs W xs w' :=
 h.move (h.sh.on hb) hb.size (fun k hk _ _ _=>hb.block k hk) (fun k e=>.inl e)
theorem QS.push {g cap : Nat} {d : Nd × (Option Addr × Nat × Nat)} (h : QS b w0 v vn vo vW vN go nr rs W xs w)
  (ho : w'.ownsRow (go + 1) 54 4 (.slice (some ⟨g,0,none⟩) (xs.length + 1) cap) (xs.length + 1) (ncs xs ++ nc d)) (hg : w.grownBy w' vN.ownBlock) (hl : vN.ownBlock = some g \/ g = w.heap.size) (hd : NdOk d.1)
  (hk : IRow w d.2.1 d.2.2.1 d.2.2.2 d.1.kids) (hkb : ∀ ad,d.2.1 = some ad -> go + 1 <= ad.block /\ ad.block < w.heap.size /\ vN.ownBlock ≠ some ad.block /\ vW.ownBlock ≠ some ad.block) :
  QS b w0 v vn vo vW (.slice (some ⟨g,0,none⟩) (xs.length + 1) cap) go nr rs W (xs ++ [d]) (w'.setCell ⟨go,0,none⟩ (.slice (some ⟨g,0,none⟩) (xs.length + 1) cap)) /\ w'.frozen? ⟨go,0,none⟩ = false /\ w'.cell? ⟨go,0,none⟩ = some vN:=by
 have hgb:=h.gb
 have hgl:=h.glt
 have hN : ∀ k,vN.ownBlock = some k -> go + 1 <= k:=fun k e=>(h.nodes.own.lt k e).1
 have hfar:=nfar h.nodes hg h.box (by omega)
 have hset : ∀ k,k ≠ go -> (w'.setCell ⟨go,0,none⟩ (.slice (some ⟨g,0,none⟩) (xs.length + 1) cap)).heap[k]? = w'.heap[k]?:=fun k hne=>Below.heap_setCell _ _ _ _ hne
 have hkk : ∀ k,k < w.heap.size -> k ≠ go -> vN.ownBlock ≠ some k -> (w'.setCell ⟨go,0,none⟩ (.slice (some ⟨g,0,none⟩) (xs.length + 1) cap)).heap[k]? = w.heap[k]?:=fun k h1 h2 h3=>(hset k h2).trans (hg.block k h1 (fun e=>h3 e.symm))
 have hlow : ∀ k,k < go -> (w'.setCell ⟨go,0,none⟩ (.slice (some ⟨g,0,none⟩) (xs.length + 1) cap)).heap[k]? = w.heap[k]?:=fun k hkg=>hkk k (by omega) (by omega) (fun e=>by have:=hN k e;omega)
 have hgo : w'.heap[go]? = w.heap[go]?:=hg.block go hgl (fun e=>by have:=hN go e.symm;omega)
 have hsz : (w'.setCell ⟨go,0,none⟩ (.slice (some ⟨g,0,none⟩) (xs.length + 1) cap)).heap.size = w'.heap.size:=by simp [World.setCell]
 refine ⟨⟨⟨?_,(hlow _ (by omega)).trans h.sh.box,h.sh.mp.frame (hlow _ (by omega)),own_at h.sh.ow (fun k e=>?_)⟩,h.gb,?_,own_at h.ro (fun k e=>hlow k (h.rob k e)),h.rob,h.nodes.pushed (by omega) ho hg hl hd hk (fun ad e=>⟨(hkb ad e).1,(hkb ad e).2.1,(hkb ad e).2.2.1⟩),h.wgo,h.wro,fun k e e'=>?_,fun x hx ad e=>?_⟩,hfar.1,hfar.2⟩
 ·exact (h.sh.bel.trans ⟨hg.os,hg.tape,hg.output,hg.size,fun k hk'=>hg.block k (by omega) (fun e=>by have:=hN k e.symm;omega)⟩).setCell (p:=⟨go,0,none⟩) (by show b <= go;omega) _
 ·exact hkk k (h.sh.ow.lt k e).2 (fun e'=>h.wgo (by rw [<- e'];exact e)) (fun e'=>h.wn k e' e)
 ·rw [blk_set (i:=0) (hgo.trans h.box)];rfl
 ·have e2 : g = k := Option.some.inj e
  subst e2
  rcases hl with e2 | e2
  ·exact h.wn g e2 e'
  ·have:=(h.sh.ow.lt g e').2;omega
 ·rcases List.mem_append.1 hx with hx | hx
  ·exact h.wk x hx ad e
  ·obtain rfl := List.mem_singleton.1 hx
   exact (hkb ad e).2.2.2
theorem qs_start {vWi : Value} {wi w3 : World} (p : POw b w0 v vn vWi wi vo vW nr rs W W w3) : QS b w0 v vn vo vW (.slice none 0 0) w3.heap.size nr rs W [] (w3.alloc (.cells #[.slice none 0 0,vo] 34)):=by
 have h1:=p.on (Ba w3 (.cells #[.slice none 0 0,vo] 34))
 have hlt:=p.lt
 have hsz:=p.oth.size
 refine ⟨h1.sh,by omega,blk_new _ _ _,own_base h1.own hlt,fun k e=>(p.own.lt k e).2,NOwn.nil _ _,fun e=>?_,p.ne,fun k e=>(by cases e),fun x hx=>(by cases hx)⟩
 have:=(p.sh.ow.lt _ e).2
 omega
theorem node_turn {w1 w3 : World} {k m : Int} {t : ByteArray} {ao : Option Addr} {nk co : Nat} {pl : List Int} (h : QS b w0 v vn vo vW vN go nr rs W xs w1)
  (p : POw b w0 v vn vW (w1.alloc (.cells #[.int .i64 k,.int .i64 m,.string t,.slice none 0 0] 54)) (.slice ao nk co) vW' nk pl W' W' w3) (hu : ∀ z∈pl,I64 z) :
  w3.heap[w1.heap.size]? = some (.cells #[.int .i64 k,.int .i64 m,.string t,.slice none 0 0] 54 (0,0)) /\
  (w3.setCell ⟨w1.heap.size,3,none⟩ (.slice ao nk co)).heap[w1.heap.size]? = some (.cells #[.int .i64 k,.int .i64 m,.string t,.slice ao nk co] 54 (0,0)) /\
  QS b w0 v vn vo vW' vN go nr rs W' xs (w3.setCell ⟨w1.heap.size,3,none⟩ (.slice ao nk co)) /\
  IRow (w3.setCell ⟨w1.heap.size,3,none⟩ (.slice ao nk co)) ao nk co pl /\
  (∀ ad,ao = some ad -> go + 1 <= ad.block /\ ad.block < (w3.setCell ⟨w1.heap.size,3,none⟩ (.slice ao nk co)).heap.size /\ vN.ownBlock ≠ some ad.block /\ vW'.ownBlock ≠ some ad.block):=by
 have hgl:=h.glt
 have hgb:=h.gb
 have hs2 : (w1.alloc (.cells #[.int .i64 k,.int .i64 m,.string t,.slice none 0 0] 54)).heap.size = w1.heap.size + 1:=size_alloc _ _
 have hnew:=blk_new w1 #[.int .i64 k,.int .i64 m,.string t,.slice none 0 0] 54
 have hbA:=Ba w1 (.cells #[.int .i64 k,.int .i64 m,.string t,.slice none 0 0] 54)
 obtain ⟨w2,hw2⟩ : ∃ w2,w2 = w1.alloc (.cells #[.int .i64 k,.int .i64 m,.string t,.slice none 0 0] 54):=⟨_,rfl⟩
 rw [<- hw2] at p hs2 hnew hbA
 have hWlt : ∀ j,vW.ownBlock = some j -> j < w1.heap.size:=fun j e=>(h.sh.ow.lt j e).2
 have hsz:=p.oth.size
 have h3 : w3.heap[w1.heap.size]? = some (.cells #[.int .i64 k,.int .i64 m,.string t,.slice none 0 0] 54 (0,0)):=(p.oth.blk w1.heap.size (by omega) (by omega) (by omega) (fun e=>by have:=hWlt _ e;omega)).trans hnew
 have hset : ∀ j,j ≠ w1.heap.size -> (w3.setCell ⟨w1.heap.size,3,none⟩ (.slice ao nk co)).heap[j]? = w3.heap[j]?:=fun j hne=>Below.heap_setCell _ _ _ _ hne
 have hsz4 : (w3.setCell ⟨w1.heap.size,3,none⟩ (.slice ao nk co)).heap.size = w3.heap.size:=by simp [World.setCell]
 have hW2 : ∀ j,vW'.ownBlock = some j -> j ≠ w1.heap.size:=fun j e e'=>by
  rcases p.blk j e with e2 | e2
  ·have:=hWlt j e2;omega
  ·omega
 refine ⟨h3,by rw [blk_set (i:=3) h3];rfl,h.move (vW':=vW') (W':=W') ?_ (by rw [hsz4];omega) (fun j h1 h2 h3 h4=>?_) (fun j e=>?_),?_,fun ad e=>?_⟩
 ·have hs := p.sh
  refine ⟨hs.bel.setCell (p:=⟨w1.heap.size,3,none⟩) (by show b <= w1.heap.size;omega) _,(hset _ (by omega)).trans hs.box,hs.mp.frame (hset _ (by omega)),own_at hs.ow (fun j e=>hset j (hW2 j e))⟩
 ·exact (hset j (by omega)).trans ((p.oth.blk j (by omega) h2 h3 h4).trans (hbA.block j h1))
 ·rcases p.blk j e with e2 | e2
  ·exact .inl e2
  ·exact .inr (by omega)
 ·have ho : (w3.setCell ⟨w1.heap.size, 3, none⟩ (.slice ao nk co)).ownsRow w2.heap.size 3 1 (.slice ao nk co) nk (iz pl) := own_at p.own (fun j e => hset j (by have := (p.own.lt j e).1; omega))
  have hn : pl.length = nk:=by have:=ho.1;rw [iz_length] at this;omega
  rw [<- hn] at ho ⊢
  obtain ⟨a2,c2,e1,e2⟩:=irow_own ho hu
  cases e1
  exact e2
 ·have e1 : (Value.slice ao nk co).ownBlock = some ad.block := by rw [e]; rfl
  have hl:=p.own.lt _ e1
  refine ⟨by omega,by rw [hsz4];exact hl.2,fun e2=>?_,p.ne _ e1⟩
  have:=(h.nodes.own.lt _ e2).2
  omega
end
end Go.Proofs.YticimejfjjmikaaGreatDoor
