import Derived.Test.YticimejfjjmikaaGreatDoorQ12
import Derived.Test.YticimejfjjmikaaGreatDoorSL1
import Derived.Test.YticimejfjjmikaaGreatDoorSL14
import Derived.Test.YticimejfjjmikaaGreatDoorSL35
import Derived.Test.YticimejfjjmikaaGreatDoorW20
import Derived.Test.YticimejfjjmikaaGreatDoorW40
import Derived.Test.YticimejfjjmikaaGreatDoorV5
import Derived.Test.YticimejfjjmikaaGreatDoorST6
import Derived.Test.YticimejfjjmikaaGreatDoorC2
import Derived.Test.YticimejfjjmikaaGreatDoorSG2
import Derived.Test.YticimejfjjmikaaGreatDoorST11
import Derived.Test.YticimejfjjmikaaGreatDoorSG6
import Derived.Deep.RegionHeld3
set_option linter.unusedVariables false
set_option linter.unusedSimpArgs false
set_option maxRecDepth 100000
namespace Go.Proofs.YticimejfjjmikaaGreatDoor
open Go.RowKit
theorem zya (k n : Int) (h8 : k ≠ 8) (h2 : k ≠ 2) : nK (zj k n 0) ≠ 2:=by
 cases h : zm k n 0
 ·have e0 : zj k n 0 = 0 := by unfold zj; rw [h]; rfl
  rw [e0];exact znu
 ·rw [(say h h8 rfl).1];exact h2
theorem zyb {ws : List Int} {cs : List Nd} : TxOk (z7 ws cs):=by
 intro x hx h34 z hz
 unfold z7 at hx
 obtain ⟨d,_,rfl⟩:=List.mem_map.1 hx
 simp only at h34 hz
 unfold zv at h34
 unfold yb at hz
 split at hz
 ·rename_i e;rw [if_pos e] at h34;omega
 rename_i e3
 rw [if_neg e3] at h34
 split at hz
 ·obtain ⟨x,_,rfl⟩:=List.mem_map.1 hz;exact zya _ _ (by decide) (by decide)
 rename_i e5
 rw [if_neg e5] at h34
 split at hz
 ·unfold qv at hz
  obtain ⟨x,_,rfl⟩:=List.mem_map.1 hz;exact zya _ _ (by decide) (by decide)
 ·rename_i e9
  rw [if_neg e9] at h34
  split at h34 <;> omega
def jf (n : Nat) : List Int:=(List.range n).map (fun k : Nat=>(k : Int))
def yz (ns : List Nd) : List Int × Int × List Ob × List ByteArray:=putR 20000 [] [] ns (jf ns.length)
theorem zms {ns : List Nd} (hs : qj ns) (hk : ∀ d∈ns,d.kids.length <= 100) (hn : ns.length <= 100) : TxOk (yz ns).2.2.1:=by
 by_cases e : (yz ns).2.1 = 0
 ·rw [yz, (zjt (N := 20000) (os := []) (nm := []) (rs := jf ns.length) e hs hk hn (by omega) (by simp)).objs]
  exact zyb
 ·rw [yz, (zgx (N := 20000) (os := []) (nm := []) (ns := ns) (rs := jf ns.length) e).2.1]
  intro x hx;cases hx
theorem range_succ (n : Nat) : jf (n + 1) = jf n ++ [(n : Int)]:=by unfold jf;rw [List.range_succ,List.map_append];rfl
theorem zgy (n : Nat) : (jf n).length = n:=by simp [jf]
theorem zyc {n : Nat} {z : Int} (h : z∈jf n) : 0 <= z /\ z < n:=by
 unfold jf at h
 obtain ⟨k,hk,rfl⟩:=List.mem_map.1 h
 have:=List.mem_range.1 hk
 omega
def zyd (ns : List Nd) (w : World) (e : Ending) (w' : World) : Prop :=
 ∃ v g ao cap F vL ls B',e = .returned (.tuple #[v,.pointer (some ⟨g,0,none⟩),.slice ao (yz ns).1.length cap,.bool true]) /\ URow w' ao (yz ns).1.length cap (yz ns).1 /\ HE w.heap.size v 20000 (yz ns).2.2.1 F w' /\ RH B' g 20000 vL ls w' /\ ls.map Prod.fst = (yz ns).2.2.1 /\ (∀ b,F b -> ¬ RF g vL ls b) /\ (∀ a,ao = some a -> ¬ F a.block) /\ Below w.heap.size w w'
theorem zbp1 {Wl W1 W2 W3 W4 : World} {v vn : Value} {F1 F2 : Nat -> Prop} {g : Nat} {ns : List Nd} {ao : Option Addr} {cap : Nat} {F' : Nat -> Prop}
  (hp1 : PH Wl.heap.size v 20000 [] F1 W1) (b1 : Below Wl.heap.size Wl W1) (hg2 : W1.heap.size <= g) (hr2 : RH W1.heap.size g 20000 (.slice none 0 0) [] W2) (b2 : Below W1.heap.size W1 W2) (hp3 : NP W2.heap.size vn [] F2 W3) (b3 : Below W2.heap.size W2 W3)
  (hu : URow W4 ao (yz ns).1.length cap (yz ns).1) (p4 : PN Wl.heap.size v vn 20000 (yz ns).2.2.1 (yz ns).2.2.2 F' W4) (q4 : ∀ b,F' b -> (F1 b \/ F2 b) \/ W3.heap.size <= b) (m4 : Mod (fun b=>F1 b \/ F2 b) W3 W4) (n4 : ∀ a,ao = some a -> ¬ F' a.block) (z4 : ∀ a,ao = some a -> W3.heap.size <= a.block) :
  HN W1.heap.size g 20000 (.slice none 0 0) [] W4.heap.size (.slice none 0 0) [] (W4.alloc (.cells #[.slice none 0 0] 73)) /\
  (∀ w',(∀ b,b < (W4.alloc (.cells #[.slice none 0 0] 73)).heap.size -> ¬ HNF g (.slice none 0 0) [] W4.heap.size (.slice none 0 0) b -> w'.heap[b]? = (W4.alloc (.cells #[.slice none 0 0] 73)).heap[b]?) -> (W4.alloc (.cells #[.slice none 0 0] 73)).heap.size <= w'.heap.size -> URow w' ao (yz ns).1.length cap (yz ns).1 /\ ∃ F,HE Wl.heap.size v 20000 (yz ns).2.2.1 F w' /\ (∀ b,F b -> F' b) /\ (∀ a,ao = some a -> ¬ F a.block)) /\
  (∀ b,F' b -> ¬ HNF g (.slice none 0 0) [] W4.heap.size (.slice none 0 0) b /\ b < (W4.alloc (.cells #[.slice none 0 0] 73)).heap.size):=by
 have s1:=b1.size
 have s2:=b2.size
 have s3:=b3.size
 have s4:=m4.size
 have hF1 : ∀ b,F1 b -> b < W1.heap.size:=fun b e=>(hp1.ge b e).2
 have hF2 : ∀ b,F2 b -> W2.heap.size <= b /\ b < W3.heap.size:=fun b e=>hp3.ge b e
 have hRF : ∀ b,RF g (.slice none 0 0) [] b -> W1.heap.size <= b /\ b < W2.heap.size:=fun b e=>hr2.foot_ge b e
 have hr4 : RH W1.heap.size g 20000 (.slice none 0 0) [] W4:=(hr2.on b3).mod m4 (fun b e1 e2=>by
  have:=hRF b e1
  rcases e2 with e2 | e2
  ·have:=hF1 b e2;omega
  ·have:=hF2 b e2;omega)
 have b5:=Ba W4 (.cells #[.slice none 0 0] 73)
 have s5 : (W4.alloc (.cells #[.slice none 0 0] 73)).heap.size = W4.heap.size + 1:=zb _ _
 have hN : ∀ b,HNF g (.slice none 0 0) [] W4.heap.size (.slice none 0 0) b -> (W1.heap.size <= b /\ b < W2.heap.size) \/ b = W4.heap.size:=fun b e=>by
  rcases e with e | e
  ·exact .inl (hRF b e)
  ·rcases e with e | e
   ·exact .inr e
   ·cases e
 have hF' : ∀ b,F' b -> ¬ HNF g (.slice none 0 0) [] W4.heap.size (.slice none 0 0) b /\ b < (W4.alloc (.cells #[.slice none 0 0] 73)).heap.size:=fun b e=>by
  have hl:=(p4.ge b e).2
  refine ⟨fun e2=>?_,by omega⟩
  rcases hN b e2 with e3 | e3
  ·rcases q4 b e with (e4 | e4) | e4
   ·have:=hF1 b e4;omega
   ·have:=hF2 b e4;omega
   ·omega
  ·omega
 refine ⟨⟨hr4.on b5,⟨zd _ _ _,World.ownsRow_nil _ _ _ _,fun e=>(by cases e),by omega⟩,fun b e1 e2=>?_⟩,fun w' hw hs=>?_,hF'⟩
 ·have := hRF b e1
  rcases e2 with e2 | e2
  ·omega
  ·cases e2
 ·have p6 : PN Wl.heap.size v vn 20000 (yz ns).2.2.1 (yz ns).2.2.2 F' w' := (p4.on b5).keep (fun b e => hw b (hF' b e).2 (hF' b e).1)
  obtain ⟨FA,FB,k1,k2,k3,k4⟩:=p6.ok
  refine ⟨(hu.on b5).keep hs (fun hne a hab=>?_),FA,⟨k1,p6.fine⟩,fun b e=>(k4 b).2 (.inl e),fun a ha e=>n4 a ha ((k4 _).2 (.inl e))⟩
  have hz:=z4 a hab
  have hlt : a.block < W4.heap.size:=by
   rcases hu.rd with e | ⟨b,o,e,h1,_⟩
   ·exact absurd e hne
   ·rw [e] at hab;cases hab;exact h1
  refine hw a.block (by omega) (fun e=>?_)
  rcases hN _ e with e3 | e3 <;> omega
theorem zjv {fn : Func} {t u v x : Tmp} (h : fn.results = #[.tmp t,.tmp u,.tmp v,.tmp x]) (tmps : Array Value) (P : Program) (w : World) :
  (results fn tmps).run P w = .ok (.tuple #[tmps.getD t undef,tmps.getD u undef,tmps.getD v undef,tmps.getD x undef]) w:=by
 simp [results,h]
set_option maxHeartbeats 16000000 in
theorem zqq (an ar : Option Addr) (nn cn nr cr : Nat) (ns : List Nd) (rs : List Int) (w : World) (G : GIs w an nn cn ar nr cr ns rs) (hs : qj ns) (hk : ∀ d∈ns,d.kids.length <= 100) (hn : nn <= 100) (hT : vx w) :
  Calls Tryz.prog 17 #[GVal an nn cn ar nr cr] w (zyd ns w):=by
 have hln:=G.nodes.len
 have hfi:=G.nodes.fits
 have hmo:=G.nodes.most
 unfold maxLen at hmo
 have HG:=hid G
 have HSM:=hid hs
 have HKD:=hid hk
 have HT:=hid hT
 obtain ⟨g0,hg0⟩ : ∃ g,g = w.heap.size:=⟨_,rfl⟩
 have HS0 : Hid ((w.alloc (.cells #[.slice an nn cn,.slice none 0 0] 34)).heap[g0]? = some (.cells #[.slice an nn cn,.slice none 0 0] 34 (0,0)) /\ Below w.heap.size w (w.alloc (.cells #[.slice an nn cn,.slice none 0 0] 34))):=⟨by rw [hg0];exact zd _ _ _,Ba w _⟩
 have HG0:=hid hg0
 unfold GVal
 clear G hs hk hT
 go_enter Tryz.func17,Tryz.ntmps17
 go_wp2_with fail
 rw [<- HG0.out]
 rw [<- HG0.out] at HS0
 go_loopw [6] (fun i wr=>∃ q : Nat,q <= nn /\ i = .int .i64 q /\ Hid (∃ vo,wr.heap[g0]? = some (.cells #[.slice an nn cn,vo] 34 (0,0)) /\ wr.ownsRow (g0 + 1) 3 1 vo q (iz (jf q)) /\ Below g0 w wr)) (fun i _=>nn - (intOf i).toNat)
 case atStart=>exact ⟨0,Nat.zero_le _,rfl,.slice none 0 0,HS0.out.1,World.ownsRow_nil _ _ _ _,HS0.out.2⟩
 case round =>
  clear HS0 hg0
  obtain ⟨q,hq,rfl,hI⟩:=hrel
  obtain ⟨vo,h1,h2,h3⟩:=hI.out
  obtain ⟨ao,co,rfl,hco,hcm⟩:=jd h2
  have k0 : wr.cell? ⟨g0,0,none⟩ = some (.slice an nn cn):=za h1 0
  have k1 : wr.cell? ⟨g0,1,none⟩ = some (.slice ao q co):=za h1 1
  have H1:=hid h1
  have H2:=hid h2
  have H3:=hid h3
  have hlt0 : g0 < wr.heap.size:=(Array.getElem?_eq_some_iff.1 h1).1
  clear hI h1 h2 h3
  by_cases hlt : q < nn
  ·have HA : Hid ((wr.alloc (.cells #[.int .i64 q] 3)).ownsRow (g0 + 1) 3 1 (.slice ao q co) q (iz (jf q))) := yq H2.out (fun k e => (Ba wr _).block k (H2.out.lt k e).2)
   have HC : Hid ((wr.alloc (.cells #[.int .i64 q] 3)).cell? ⟨wr.heap.size,0,none⟩ = some (.int .i64 q)):=za (zd wr #[.int .i64 q] 3) 0
   have HZ : Hid (g0 + 1 <= (wr.alloc (.cells #[.int .i64 q] 3)).heap.size):=by unfold Hid;rw [zb];omega
   have HE : Hid (∀ (g cap : Nat) (w4 : World),w4.ownsRow (g0 + 1) 3 1 (.slice (some ⟨g,0,none⟩) (q + 1) cap) (q + 1) (iz (jf q ++ [(q : Int)])) -> (wr.alloc (.cells #[.int .i64 q] 3)).grownBy w4 (Value.slice ao q co).ownBlock -> ((Value.slice ao q co).ownBlock = some g \/ g = (wr.alloc (.cells #[.int .i64 q] 3)).heap.size) ->
     w4.cell? ⟨g0,1,none⟩ = some (.slice ao q co) /\ w4.frozen? ⟨g0,1,none⟩ = false /\ ∃ vo,(w4.setCell ⟨g0,1,none⟩ (.slice (some ⟨g,0,none⟩) (q + 1) cap)).heap[g0]? = some (.cells #[.slice an nn cn,vo] 34 (0,0)) /\ (w4.setCell ⟨g0,1,none⟩ (.slice (some ⟨g,0,none⟩) (q + 1) cap)).ownsRow (g0 + 1) 3 1 vo (q + 1) (iz (jf (q + 1))) /\ Below g0 w (w4.setCell ⟨g0,1,none⟩ (.slice (some ⟨g,0,none⟩) (q + 1) cap))):=fun g cap w4 ho hg hl=>by
    have hb:=Ba wr (.cells #[.int .i64 q] 3)
    have hown : ∀ k,(Value.slice ao q co).ownBlock = some k -> g0 + 1 <= k:=fun k e=>(H2.out.lt k e).1
    have hx : w4.heap[g0]? = some (.cells #[.slice an nn cn,.slice ao q co] 34 (0,0)):=(hg.block g0 (by rw [zb];omega) (fun e=>by have:=hown g0 e.symm;omega)).trans ((hb.block g0 hlt0).trans H1.out)
    refine ⟨za hx 1,zf hx 1,_,by rw [zy (i:=1) hx];rfl,?_,?_⟩
    ·rw [range_succ]
     exact yq ho (fun k e=>Below.heap_setCell _ _ _ _ (fun e'=>by
      have : g = k:=Option.some.inj e
      have e'' : k = g0:=e'
      rcases hl with h | h
      ·have:=hown g h;omega
      ·rw [zb] at h;omega))
    ·exact (H3.out.trans ((hb.mono (by omega)).trans ⟨hg.os,hg.tape,hg.output,hg.size,fun k hk=>hg.block k (by rw [zb];omega) (fun e=>by have:=hown k e.symm;omega)⟩)).setCell (p:=⟨g0,1,none⟩) (Nat.le_refl _) _
   go_wp2_with (at_builtin;refine appi rfl _ _ 32 rfl (g0 + 1) 3 Tryz.underlying32 zao _ q (jf q) rfl HA.out ⟨wr.heap.size,0,none⟩ 1 (q : Nat) rfl HC.out (by omega) HZ.out ?_;intro g cap w4 ho4 hg4 hl4 hlt4;obtain ⟨x1,x2,x3⟩:=HE.out g cap w4 ho4 hg4 hl4;have HX3:=hid x3;clear ho4 hg4 hl4 hlt4 x3)
   exact ⟨⟨q + 1,by omega,by go_num,HX3.out⟩,by simp [intOf] <;> omega⟩
  ·obtain rfl : nn = q := by omega
   have hir:=H2.out
   obtain ⟨ao',co',e1,hir⟩:=zet (l:=jf nn) (by rw [zgy];exact hir) (fun z hz=>by have:=zyc hz;unfold I64;omega)
   rw [zgy] at e1 hir
   have e2 : ao = ao' /\ co = co':=by injection e1 with e1 _ e3;exact ⟨e1,e3⟩
   obtain ⟨rfl,rfl⟩:=e2
   have HGR : Hid (GIs wr an nn cn ao nn co ns (jf nn)):=⟨(HG.out.below (by rw [<- HG0.out];exact H3.out)).nodes,hir⟩
   have CN : Hid (∀ wx,Calls Tryz.prog 29 #[.int .i64 20000] wx fun e w'=>∃ v F,e = .returned (.tuple #[v,.int .i64 0]) /\ PH wx.heap.size v 20000 [] F w' /\ Below wx.heap.size wx w'):=fun wx=>by
    refine (zdt1 20000 (by unfold Z64;omega) wx).mono (fun e w' h=>?_)
    unfold NewP at h
    rw [if_neg (by omega)] at h
    exact h
   have CR : Hid (∀ wx,Calls Tryz.prog 30 #[.int .i64 20000] wx fun e w'=>∃ g,e = .returned (.tuple #[.pointer (some ⟨g,0,none⟩),.int .i64 0]) /\ wx.heap.size <= g /\ RH wx.heap.size g 20000 (.slice none 0 0) [] w' /\ Below wx.heap.size wx w'):=fun wx=>by
    refine (zzg 20000 (by unfold Z64;omega) wx).mono (fun e w' h=>?_)
    rw [if_neg (by omega)] at h
    exact h
   have HTR : Hid (vx wr):=vx.below HT.out (by rw [<- HG0.out];exact H3.out)
   clear hir e1 HG H2 HT
   go_wp2_with (first
    | (go_at_call 29;(with_reducible refine (CN.out wr).mono ?_);rintro e W1 ⟨v,F1,rfl,hp1,b1⟩;have HP1:=hid hp1;have HB1:=hid b1;clear hp1 b1)
    | (go_at_call 30;(with_reducible refine (CR.out W1).mono ?_);rintro e W2 ⟨g,rfl,hg2,hr2,b2⟩;have HG2:=hid hg2;have HR2:=hid hr2;have HB2:=hid b2;clear hg2 hr2 b2))
   have hb12 : Below wr.heap.size wr W2:=HB1.out.trans (HB2.out.mono HB1.out.size)
   have HX2 : Hid (W2.heap[g0]? = some (.cells #[.slice an nn cn,.slice ao nn co] 34 (0,0))):=(hb12.block g0 hlt0).trans H1.out
   have HB12:=hid hb12
   have y0 : W2.cell? ⟨g0,0,none⟩ = some (.slice an nn cn):=za HX2.out 0
   have y1 : W2.cell? ⟨g0,1,none⟩ = some (.slice ao nn co):=za HX2.out 1
   clear CN CR k0 k1 hb12
   have hgok : ∀ wx,Below wr.heap.size wr wx -> GOk wx an nn cn ao nn co ns (jf nn):=fun wx hb=>⟨HGR.out.below hb,HSM.out,HKD.out,by omega,by omega⟩
   have hlr : yz ns = putR 20000 [] [] ns (jf nn):=by unfold yz;rw [hln]
   have CP : Hid (∀ (W3 : World) (vn : Value) (F2 : Nat -> Prop),NP W2.heap.size vn [] F2 W3 -> Below W2.heap.size W2 W3 -> Calls Tryz.prog 46 #[v,vn,.agg #[.slice an nn cn,.slice ao nn co]] W3 fun e W4=>∃ (a4 : Option Addr) (c4 : Nat) (F' : Nat -> Prop),e = .returned (.tuple #[.slice a4 (yz ns).1.length c4,.int .i64 (yz ns).2.1]) /\
     HN W1.heap.size g 20000 (.slice none 0 0) [] W4.heap.size (.slice none 0 0) [] (W4.alloc (.cells #[.slice none 0 0] 73)) /\
     (∀ w',(∀ b,b < (W4.alloc (.cells #[.slice none 0 0] 73)).heap.size -> ¬ HNF g (.slice none 0 0) [] W4.heap.size (.slice none 0 0) b -> w'.heap[b]? = (W4.alloc (.cells #[.slice none 0 0] 73)).heap[b]?) -> (W4.alloc (.cells #[.slice none 0 0] 73)).heap.size <= w'.heap.size -> URow w' a4 (yz ns).1.length c4 (yz ns).1 /\ ∃ F,HE wr.heap.size v 20000 (yz ns).2.2.1 F w' /\ (∀ b,F b -> F' b) /\ (∀ a,a4 = some a -> ¬ F a.block)) /\
     (∀ b,F' b -> ¬ HNF g (.slice none 0 0) [] W4.heap.size (.slice none 0 0) b /\ b < (W4.alloc (.cells #[.slice none 0 0] 73)).heap.size) /\
     URow W4 a4 (yz ns).1.length c4 (yz ns).1 /\ Below wr.heap.size wr W4 /\ W1.heap.size <= W4.heap.size):=fun W3 vn F2 hn3 b3=>by
    have hpn:=zhf1 (HP1.out.keep (fun b e=>HB2.out.block b (HP1.out.ge b e).2)) (HB1.out.trans (HB2.out.mono HB1.out.size)) hn3 b3
    have hb3 : Below wr.heap.size wr W3:=HB12.out.trans (b3.mono HB12.out.size)
    have hput:=zbn1 an ao nn cn nn co ns (jf nn) W3 hpn (hgok W3 hb3) hn hn hb3.size (by simp) (vx.below HTR.out hb3)
    rw [<- hlr] at hput
    refine hput.mono ?_
    rintro e W4 ⟨a4,c4,rfl,hu4,F',p4,q4,m4,n4,z4⟩
    obtain ⟨r1,r2,r3⟩:=zbp1 HP1.out HB1.out HG2.out HR2.out HB2.out hn3 b3 hu4 p4 q4 m4 n4 z4
    have hb4 : Below wr.heap.size wr W4:=hb3.trans (m4.below (fun b e=>(hpn.ge b e).1) hb3.size)
    exact ⟨a4,c4,F',rfl,r1,r2,r3,hu4,hb4,Nat.le_trans HB2.out.size (Nat.le_trans b3.size m4.size)⟩
   obtain ⟨nw,hnw⟩ : ∃ n,n = (yz ns).1.length:=⟨_,rfl⟩
   obtain ⟨er,her⟩ : ∃ n,n = (yz ns).2.1:=⟨_,rfl⟩
   rw [<- hnw,<- her] at CP
   have KS : Hid (∀ W,Below wr.heap.size wr W -> W.cell? ⟨g0,0,none⟩ = some (.slice an nn cn) /\ W.cell? ⟨g0,1,none⟩ = some (.slice ao nn co)):=fun W hb=>by
    have:=(hb.block g0 hlt0).trans H1.out
    exact ⟨za this 0,za this 1⟩
   have KB : Hid (∀ W,Below W2.heap.size W2 W -> Below wr.heap.size wr W):=fun W hb=>HB12.out.trans (hb.mono HB12.out.size)
   have HLR:=hid hlr
   have HNW:=hid hnw
   have HER:=hid her
   have HGK:=hid hgok
   clear hgok hlr hnw her
   have CD : Hid (∀ (W4 : World) (a4 : Option Addr) (c4 : Nat) (F' : Nat -> Prop),HN W1.heap.size g 20000 (.slice none 0 0) [] W4.heap.size (.slice none 0 0) [] (W4.alloc (.cells #[.slice none 0 0] 73)) ->
     (∀ w',(∀ b,b < (W4.alloc (.cells #[.slice none 0 0] 73)).heap.size -> ¬ HNF g (.slice none 0 0) [] W4.heap.size (.slice none 0 0) b -> w'.heap[b]? = (W4.alloc (.cells #[.slice none 0 0] 73)).heap[b]?) -> (W4.alloc (.cells #[.slice none 0 0] 73)).heap.size <= w'.heap.size -> URow w' a4 nw c4 (yz ns).1 /\ ∃ F,HE wr.heap.size v 20000 (yz ns).2.2.1 F w' /\ (∀ b,F b -> F' b) /\ (∀ a,a4 = some a -> ¬ F a.block)) ->
     (∀ b,F' b -> ¬ HNF g (.slice none 0 0) [] W4.heap.size (.slice none 0 0) b /\ b < (W4.alloc (.cells #[.slice none 0 0] 73)).heap.size) -> URow W4 a4 nw c4 (yz ns).1 -> Below wr.heap.size wr W4 -> W1.heap.size <= W4.heap.size ->
     Calls Tryz.prog 51 #[.pointer (some ⟨g,0,none⟩),.pointer (some ⟨W4.heap.size,0,none⟩),.agg #[.slice an nn cn,.slice ao nn co]] (W4.alloc (.cells #[.slice none 0 0] 73)) fun e w'=>∃ (a5 : Option Addr) (c5 : Nat),e = .returned (.tuple #[.slice a5 nw c5,.int .i64 er]) /\ URow w' a5 nw c5 (yz ns).1 /\ URow w' a4 nw c4 (yz ns).1 /\ ∃ F vL ls B',HE wr.heap.size v 20000 (yz ns).2.2.1 F w' /\ RH B' g 20000 vL ls w' /\ ls.map Prod.fst = (yz ns).2.2.1 /\ (∀ b,F b -> ¬ RF g vL ls b) /\ (∀ a,a4 = some a -> ¬ F a.block) /\ Below wr.heap.size wr w'):=fun W4 a4 c4 F' r1 r2 r3 hu4 b4 l4=>by
    have b5:=Bt b4 (Ba W4 (.cells #[.slice none 0 0] 73))
    have hB : W1.heap.size <= (W4.alloc (.cells #[.slice none 0 0] 73)).heap.size:=by rw [zb];omega
    have hput:=zao1 an ao nn cn nn co ns (jf nn) _ r1 (HGK.out _ b5).is HSM.out HKD.out hn hn hB (by simp)
    rw [List.map_nil,<- HLR.out] at hput
    refine hput.mono ?_
    rintro e w' ⟨vv,rfl,ho,hp⟩
    obtain ⟨a5,c5,rfl,hu5⟩:=xy ho hu4.bd
    obtain ⟨vL',ls',vN',k1,k2,k3,k4⟩:=hp
    obtain ⟨u4,F,q1,q2,q3⟩:=r2 w' (fun b hb hn=>k4.block b hb hn) k4.size
    refine ⟨a5,c5,by rw [HNW.out,HER.out],by rw [HNW.out];exact hu5,u4,F,vL',ls',_,q1,k1.heap,k2,fun b e1 e2=>?_,q3,b5.trans (k4.below (fun b e=>Nat.le_trans HB1.out.size (r1.ge b e).1) b5.size)⟩
    rcases k3 b (.inl e2) with e3 | e3
    ·exact (r3 b (q2 b e1)).1 e3
    ·have:=(r3 b (q2 b e1)).2;omega
   have y3 : ∀ W,Below W2.heap.size W2 W -> W.cell? ⟨g0,0,none⟩ = some (.slice an nn cn) /\ W.cell? ⟨g0,1,none⟩ = some (.slice ao nn co):=fun W hb=>KS.out W (KB.out W hb)
   go_region_with (first
     | (go_at_call 31;refine (zsr W2.drew).mono ?_;rintro e W3 ⟨vn,F2,rfl,hp3,b3'⟩;have b3:=Bt (Bd W2 1) b3';obtain ⟨z0,z1⟩:=KS.out W3 (KB.out W3 b3);have C4:=hid (CP.out W3 vn F2 hp3 b3);clear hp3 b3 b3')
     | (go_at_call 46;refine C4.out.mono ?_;rintro e W4 ⟨a4,c4,F',rfl,r1,r2,r3,u4,b4,l4⟩;have R1:=hid r1;have R2:=hid r2;have R3:=hid r3;have HU4:=hid u4;have HB4:=hid b4;have HL4:=hid l4;clear r1 r2 r3 u4 b4 l4))
   all_goals
    clear CP C4 y3 y0 y1
    have C5:=hid (CD.out W4 a4 c4 F' R1.out R2.out R3.out HU4.out HB4.out HL4.out)
    obtain ⟨x0,x1⟩:=KS.out _ (Bt HB4.out (Ba W4 (.cells #[.slice none 0 0] 73)))
    have hee : (er != er) = false:=by simp
    have hnn : ((nw : Int) != (nw : Int)) = false:=by simp
    simp only [Act.put,List.setIfInBounds_toArray,List.set_cons_zero,List.set_cons_succ]
    go_wp2_with (go_at_call 51;refine C5.out.mono ?_;rintro e W6 ⟨a5,c5,rfl,u5,u4,q6⟩;have HU5:=hid u5;have HU6:=hid u4;have HQ6:=hid q6;clear u5 u4 q6)
    have hw6:=HU6.out.len
    have hf6:=HU6.out.fits
    have hm6:=HU6.out.most
    have hf5:=HU5.out.fits
    have hm5:=HU5.out.most
    unfold maxLen at hm6 hm5
    have HFIN : Hid (∀ wx,Below W6.heap.size W6 wx -> zyd ns w (.returned (.tuple #[v,.pointer (some ⟨g,0,none⟩),.slice a4 nw c4,.bool true])) wx):=fun wx hb=>by
     obtain ⟨F,vL,ls,B',q1,q2,q3,q4,q5,q6⟩:=HQ6.out
     have hww : Below w.heap.size w wr:=by rw [<- HG0.out];exact H3.out
     refine ⟨v,g,a4,c4,F,vL,ls,B',by rw [<- HNW.out],by rw [<- HNW.out];exact HU6.out.on hb,⟨(q1.on hb).ph.weak hww.size,q1.fine⟩,q2.on hb,q3,q4,q5,?_⟩
     exact (hww.trans (q6.mono hww.size)).trans (hb.mono (by have:=hww.size;have:=q6.size;omega))
    clear C5 CD R1 R2 R3 HU4 x0 x1 hee hnn H1 HX2
    go_loopw [15] (fun i wx=>∃ q : Nat,q <= nw /\ i = .int .i64 q /\ Hid (Below W6.heap.size W6 wx)) (fun i _=>nw - (intOf i).toNat)
    case atStart=>exact ⟨0,Nat.zero_le _,rfl,Below.refl _ _⟩
    case round =>
     obtain ⟨q,hq,rfl,hI⟩:=hrel
     by_cases hlt : q < nw
     ·obtain ⟨bb4, oo4, ea4, _, hc4⟩ := (HU6.out.on hI.out).some (by omega)
      obtain ⟨bb5,oo5,ea5,_,hc5⟩:=(HU5.out.on hI.out).some (by omega)
      subst ea4 ea5
      have l4:=hc4 q hlt
      have l5:=hc5 q hlt
      obtain ⟨z,hz⟩ : ∃ z,z = (yz ns).1.getD q 0:=⟨_,rfl⟩
      rw [<- hz] at l4 l5
      have hzz : (z != z) = false:=by simp
      clear hc4 hc5 hz
      go_wp2_with fail
      go_quiet (fail)
      go_wp2_with fail
      exact ⟨⟨q + 1,by omega,by go_num,Bt hI.out (Bd _ nq)⟩,by simp [intOf] <;> omega⟩
     ·obtain rfl : nw = q := by omega
      go_wp2_with fail
      (try simp only [Exit.inBlock,Exit.then]);refine bodyPost_ret (zjv rfl _ _ _) rfl ?_
      exact HFIN.out _ hI.out
def gE : List Nd:=[⟨7,0,ByteArray.empty,[3,0]⟩,⟨7,0,ByteArray.empty,[3,2]⟩,⟨7,0,ByteArray.empty,[3,1]⟩,⟨3,0,⟨#[49]⟩,[]⟩]
def oE : List Ob:=[⟨1,[8,1]⟩,⟨1,[8,49]⟩,⟨1,[8,25]⟩]
theorem zho1 : yz gE = ([1,25,49,8],0,oE,[]):=by kernel_rfl
theorem all4 {α : Type} {p : α -> Prop} {a b c d : α} (h1 : p a) (h2 : p b) (h3 : p c) (h4 : p d) : ∀ x∈[a,b,c,d],p x:=fun x hx=>by
 simp only [List.mem_cons,List.not_mem_nil,or_false] at hx
 rcases hx with rfl | rfl | rfl | rfl
 ·exact h1
 ·exact h2
 ·exact h3
 ·exact h4
theorem zck1 : qj gE:=all4 (by decide) (by decide) (by decide) (by decide)
theorem zhp1 : ∀ d∈gE,d.kids.length <= 100:=all4 (by decide) (by decide) (by decide) (by decide)
theorem e1v : eqvB oE 1 25 = false:=by kernel_rfl
theorem e2v : eqvB oE 8 8 = true:=by kernel_rfl
theorem hE1 : hpO oE 1 = some (1,[8,1]):=by kernel_rfl
theorem hE25 : hpO oE 25 = some (1,[8,49]):=by kernel_rfl
theorem hE49 : hpO oE 49 = some (1,[8,25]):=by kernel_rfl
theorem hE8 : hpO oE 8 = none:=by kernel_rfl
theorem e1a : alikeB oE 1 25 = true:=by
 refine (gy _ _ _).2 ⟨fun x y=>x = y \/ x = 1 /\ (y = 25 \/ y = 49),fun x y h=>?_,.inr ⟨rfl,.inl rfl⟩⟩
 rcases h with h | ⟨rfl,rfl | rfl⟩
 ·exact .inl (.inl h)
 ·refine .inr ⟨1, [8, 1], [8, 49], hE1, hE25, by omega, rfl, fun j hj => ?_⟩
  have : j = 0 \/ j = 1:=by simp at hj;omega
  rcases this with rfl | rfl
  ·exact .inl rfl
  ·exact .inr ⟨rfl,.inr rfl⟩
 ·refine .inr ⟨1, [8, 1], [8, 25], hE1, hE49, by omega, rfl, fun j hj => ?_⟩
  have : j = 0 \/ j = 1:=by simp at hj;omega
  rcases this with rfl | rfl
  ·exact .inl rfl
  ·exact .inr ⟨rfl,.inl rfl⟩
theorem e2a : alikeB oE 1 8 = false:=by
 refine zmr (fun h=>?_)
 rcases kw 1 8 h with (h | ⟨f,_,h2,_⟩) | ⟨k,f,g,_,h2,_⟩
 ·omega
 ·rw [hE8] at h2;cases h2
 ·rw [hE8] at h2;cases h2
def litE (g : Nat) : List Obj:=[.cells #[.int .i64 3,.int .i64 0] 3,.cells #[.int .i64 3,.int .i64 2] 3,.cells #[.int .i64 3,.int .i64 1] 3,
 .cells #[.int .i64 7,.int .i64 0,.string ⟨#[]⟩,.slice (some ⟨g,0,none⟩) 2 2,.int .i64 7,.int .i64 0,.string ⟨#[]⟩,.slice (some ⟨g + 1,0,none⟩) 2 2,.int .i64 7,.int .i64 0,.string ⟨#[]⟩,.slice (some ⟨g + 1 + 1,0,none⟩) 2 2,.int .i64 3,.int .i64 0,.string ⟨#[49]⟩,.slice none 0 0] 54,
 .cells #[.slice (some ⟨g + 1 + 1 + 1,0,none⟩) 4 4,.slice none 0 0] 34]
theorem nd7 (l : List Int) : NdOk ⟨7,0,ByteArray.empty,l⟩:=by
 unfold NdOk I64 maxLen
 exact ⟨⟨by show (-9223372036854775808 : Int) <= 7;decide,by show (7 : Int) <= 9223372036854775807;decide⟩,⟨by show (-9223372036854775808 : Int) <= 0;decide,by show (0 : Int) <= 9223372036854775807;decide⟩,by show ByteArray.empty.size <= 2 ^ 63 - 1;decide⟩
theorem zfm1 (w : World) : GIs (j7 w (litE w.heap.size)) (some ⟨w.heap.size + 1 + 1 + 1,0,none⟩) 4 4 none 0 0 gE []:=by
 have h0:=jo (w:=w) (os:=litE w.heap.size) (i:=0) rfl
 have h1:=jo (w:=w) (os:=litE w.heap.size) (i:=1) rfl
 have h2:=jo (w:=w) (os:=litE w.heap.size) (i:=2) rfl
 have h3:=jo (w:=w) (os:=litE w.heap.size) (i:=3) rfl
 have b : ∀ l : List Int,(∀ z∈l,0 <= z /\ z < 4) -> ∀ z∈l,I64 z:=fun l h z hz=>by have:=h z hz;unfold I64;omega
 have k0:=zdc (l:=[3,0]) (n:=2) h0 rfl rfl (by omega) (b _ (by simp))
 have k1:=zdc (l:=[3,2]) (n:=2) h1 rfl rfl (by omega) (b _ (by simp))
 have k2:=zdc (l:=[3,1]) (n:=2) h2 rfl rfl (by omega) (b _ (by simp))
 refine ⟨zaa1 (l:=[(⟨7,0,ByteArray.empty,[3,0]⟩,some ⟨w.heap.size,0,none⟩,2,2),(⟨7,0,ByteArray.empty,[3,2]⟩,some ⟨w.heap.size + 1,0,none⟩,2,2),(⟨7,0,ByteArray.empty,[3,1]⟩,some ⟨w.heap.size + 1 + 1,0,none⟩,2,2),(⟨3,0,⟨#[49]⟩,[]⟩,none,0,0)]) h3 rfl rfl (by omega) (all4 k0 k1 k2 (IRow.nil _ none)) (all4 (nd7 _) (nd7 _) (nd7 _) (by unfold NdOk I64 maxLen;decide)),IRow.nil _ none⟩
theorem zcl1 {W wx wy : World} {p o : Nat} {a0 a1 a3 : Value} (h : wx.cell? ⟨p,o,none⟩ = some a0 /\ wx.cell? ⟨p,o + 1,none⟩ = some a1 /\ wx.cell? ⟨p,o + 3,none⟩ = some a3 /\ Below W.heap.size W wx) (hb : Below wx.heap.size wx wy) : wy.cell? ⟨p,o,none⟩ = some a0 /\ wy.cell? ⟨p,o + 1,none⟩ = some a1 /\ wy.cell? ⟨p,o + 3,none⟩ = some a3 /\ Below W.heap.size W wy :=
 ⟨(hb.cell (p:=⟨p,o,none⟩) (qe h.1)).trans h.1,(hb.cell (p:=⟨p,o + 1,none⟩) (qe h.2.1)).trans h.2.1,(hb.cell (p:=⟨p,o + 3,none⟩) (qe h.2.2.1)).trans h.2.2.1,Bt h.2.2.2 hb⟩
theorem zgz {W wx : World} {p o : Nat} {a0 a1 a3 : Value} (h : wx.cell? ⟨p,o,none⟩ = some a0 /\ wx.cell? ⟨p,o + 1,none⟩ = some a1 /\ wx.cell? ⟨p,o + 3,none⟩ = some a3 /\ Below W.heap.size W wx) : Below W.heap.size W wx:=h.2.2.2
set_option maxHeartbeats 16000000 in
theorem zif (w : World) (hT : vx w) : Calls Tryz.prog 18 #[] w fun e w'=>e = .returned (.bool true) /\ Below w.heap.size w w':=by
 have hlit:=zfm1 w
 have hb0:=vf (litE w.heap.size) w
 have CL:=hid (zqq (some ⟨w.heap.size + 1 + 1 + 1,0,none⟩) none 4 4 0 0 gE [] _ hlit zck1 zhp1 (by omega) (hT.below hb0))
 have HTW : Hid (∀ W,Below w.heap.size w W -> vx W):=fun W hb=>hT.below hb
 have HB0:=hid hb0
 have hbox:=jo (w:=w) (os:=litE w.heap.size) (i:=4) rfl
 have hxx : TxOk oE:=by
  have:=zms zck1 zhp1 (by decide)
  rw [zho1] at this
  exact this
 have HXX:=hid hxx
 unfold GVal zyd at CL
 simp only [zho1,List.length_cons,List.length_nil] at CL
 unfold litE j7 j7 j7 j7 j7 j7 at CL HB0 hbox
 have c0:=za hbox 0
 have c1:=za hbox 1
 clear hlit hb0 hxx hbox hT
 go_enter Tryz.func18,Tryz.ntmps18
 go_wp2_with (go_at_call 17;refine CL.out.mono ?_;rintro e W2 ⟨v,g,ao,cap,F,vL,ls,B',rfl,u2,h2,r2,_,_,_,b2⟩;have HU2:=hid u2;have HH2:=hid h2;have HB2:=hid (Bt HB0.out b2);clear u2 h2 r2 b2)
 obtain ⟨bb,oo,rfl,_,hcc⟩:=HU2.out.some (by omega)
 have x0:=hcc 0 (by omega)
 have x1:=hcc 1 (by omega)
 have x3:=hcc 3 (by omega)
 simp only [Nat.add_zero,List.getD_cons_zero,List.getD_cons_succ] at x0 x1 x3
 have hf:=HU2.out.fits
 have hm:=HU2.out.most
 unfold maxLen at hm
 obtain ⟨gh,rfl⟩:=HH2.out.ph.ptr
 have u0 : ∀ z : Int,z = 1 \/ z = 25 \/ z = 8 -> U64 z:=fun z h=>by unfold U64;omega
 have C1 : Hid (∀ wx,Below W2.heap.size W2 wx -> Calls Tryz.prog 20 #[.pointer (some ⟨gh,0,none⟩),.int .u64 1,.int .u64 25] wx fun e w'=>e = .returned (.bool false) /\ Below wx.heap.size wx w'):=fun wx hb=>by
  have:=zex 1 25 (u0 _ (by omega)) (u0 _ (by omega)) wx (HH2.out.on hb) (HTW.out wx (Bt HB2.out hb))
  rw [e1v] at this;exact this
 have C2 : Hid (∀ wx,Below W2.heap.size W2 wx -> Calls Tryz.prog 22 #[.pointer (some ⟨gh,0,none⟩),.int .u64 1,.int .u64 25] wx fun e w'=>e = .returned (.bool true) /\ Below wx.heap.size wx w'):=fun wx hb=>by
  have:=zbl 1 25 (u0 _ (by omega)) (u0 _ (by omega)) wx (HH2.out.on hb) (HTW.out wx (Bt HB2.out hb)) HXX.out
  rw [e1a] at this;exact this
 have C3 : Hid (∀ wx,Below W2.heap.size W2 wx -> Calls Tryz.prog 20 #[.pointer (some ⟨gh,0,none⟩),.int .u64 8,.int .u64 8] wx fun e w'=>e = .returned (.bool true) /\ Below wx.heap.size wx w'):=fun wx hb=>by
  have:=zex 8 8 (u0 _ (by omega)) (u0 _ (by omega)) wx (HH2.out.on hb) (HTW.out wx (Bt HB2.out hb))
  rw [e2v] at this;exact this
 have C4 : Hid (∀ wx,Below W2.heap.size W2 wx -> Calls Tryz.prog 22 #[.pointer (some ⟨gh,0,none⟩),.int .u64 1,.int .u64 8] wx fun e w'=>e = .returned (.bool false) /\ Below wx.heap.size wx w'):=fun wx hb=>by
  have:=zbl 1 8 (u0 _ (by omega)) (u0 _ (by omega)) wx (HH2.out.on hb) (HTW.out wx (Bt HB2.out hb)) HXX.out
  rw [e2a] at this;exact this
 have HS0 : Hid (W2.cell? ⟨bb,oo,none⟩ = some (.int .u64 1) /\ W2.cell? ⟨bb,oo + 1,none⟩ = some (.int .u64 25) /\ W2.cell? ⟨bb,oo + 3,none⟩ = some (.int .u64 8) /\ Below W2.heap.size W2 W2):=⟨x0,x1,x3,Below.refl _ _⟩
 clear hcc u0 c0 c1 CL
 go_region_held3 (fun wx=>wx.cell? ⟨bb,oo,none⟩ = some (.int .u64 1) /\ wx.cell? ⟨bb,oo + 1,none⟩ = some (.int .u64 25) /\ wx.cell? ⟨bb,oo + 3,none⟩ = some (.int .u64 8) /\ Below W2.heap.size W2 wx)
  (first | exact zcl1 HS0.out (Bd W2 1) | exact zcl1 (by assumption) (by assumption))
  (first
   | (go_at_call 20;with_reducible refine (C1.out _ ?_).mono ?_;(exact zgz (by assumption));rintro e wa ⟨rfl,ba⟩)
   | (go_at_call 22;with_reducible refine (C2.out _ ?_).mono ?_;(exact zgz (by assumption));rintro e wb ⟨rfl,bb'⟩)
   | (go_at_call 20;with_reducible refine (C3.out _ ?_).mono ?_;(exact zgz (by assumption));rintro e wc ⟨rfl,bc⟩)
   | (go_at_call 22;with_reducible refine (C4.out _ ?_).mono ?_;(exact zgz (by assumption));rintro e wd ⟨rfl,bd⟩))
 have HBE : Hid (Below W2.heap.size W2 wd):=zgz (p:=bb) (o:=oo) (a0:=.int .u64 1) (a1:=.int .u64 25) (a3:=.int .u64 8) (by assumption)
 rename_i hHeld
 clear hHeld
 go_wp2
 go_ret
 exact ⟨rfl,Bt HB2.out HBE.out⟩
end Go.Proofs.YticimejfjjmikaaGreatDoor
