import Derived.Test.YticimejfjjmikaaGreatDoorQ14
import Derived.Test.YticimejfjjmikaaGreatDoorC2
set_option linter.unusedVariables false
set_option linter.unusedSimpArgs false
set_option maxRecDepth 100000
namespace Go.Proofs.YticimejfjjmikaaGreatDoor
open Go.RowKit
def gE : List Nd:=[⟨7,0,ByteArray.empty,[3,0]⟩,⟨7,0,ByteArray.empty,[3,2]⟩,⟨7,0,ByteArray.empty,[3,1]⟩,⟨3,0,⟨#[49]⟩,[]⟩]
def oE : List Ob:=[⟨1,[8,1]⟩,⟨1,[8,49]⟩,⟨1,[8,25]⟩]
theorem zfj1 : yo gE = ([1,25,49,8],0,oE,[]):=by kernel_rfl
theorem all4 {α : Type} {p : α -> Prop} {a b c d : α} (h1 : p a) (h2 : p b) (h3 : p c) (h4 : p d) : ∀ x∈[a,b,c,d],p x:=fun x hx=>by
 simp only [List.mem_cons,List.not_mem_nil,or_false] at hx
 rcases hx with rfl | rfl | rfl | rfl
 ·exact h1
 ·exact h2
 ·exact h3
 ·exact h4
theorem zaq1 : j9 gE:=all4 (by decide) (by decide) (by decide) (by decide)
theorem zfk1 : ∀ d∈gE,d.kids.length <= 100:=all4 (by decide) (by decide) (by decide) (by decide)
theorem e1v : eqvB oE 1 25 = false:=by kernel_rfl
theorem e2v : eqvB oE 8 8 = true:=by kernel_rfl
theorem hE1 : hpO oE 1 = some (1,[8,1]):=by kernel_rfl
theorem hE25 : hpO oE 25 = some (1,[8,49]):=by kernel_rfl
theorem hE49 : hpO oE 49 = some (1,[8,25]):=by kernel_rfl
theorem hE8 : hpO oE 8 = none:=by kernel_rfl
theorem e1a : alikeB oE 1 25 = true:=by
 refine (zav _ _ _).2 ⟨fun x y=>x = y \/ x = 1 /\ (y = 25 \/ y = 49),fun x y h=>?_,.inr ⟨rfl,.inl rfl⟩⟩
 rcases h with h | ⟨rfl,rfl | rfl⟩
 ·exact .inl (.inl h)
 ·refine .inr ⟨1, [8, 1], [8, 49], hE1, hE25, by omega, rfl, fun j hj => ?_⟩
  have : j = 0 \/ j = 1:=by simp at hj;omega
  rcases this with rfl | rfl
  ·exact .inl rfl
  ·exact .inr ⟨rfl,.inr rfl⟩
 ·refine .inr ⟨1, [8, 1], [8, 25], hE1, hE49, by omega, rfl, fun j hj => ?_⟩
  have : j = 0 \/ j = 1:=by simp at hj;omega
  rcases this with rfl | rfl
  ·exact .inl rfl
  ·exact .inr ⟨rfl,.inl rfl⟩
theorem e2a : alikeB oE 1 8 = false:=by
 refine zlj (fun h=>?_)
 rcases xt 1 8 h with (h | ⟨f,_,h2,_⟩) | ⟨k,f,g,_,h2,_⟩
 ·omega
 ·rw [hE8] at h2;cases h2
 ·rw [hE8] at h2;cases h2
def litE (g : Nat) : List Obj:=[.cells #[.int .i64 3,.int .i64 0] 3,.cells #[.int .i64 3,.int .i64 2] 3,.cells #[.int .i64 3,.int .i64 1] 3,
 .cells #[.int .i64 7,.int .i64 0,.string ⟨#[]⟩,.slice (some ⟨g,0,none⟩) 2 2,.int .i64 7,.int .i64 0,.string ⟨#[]⟩,.slice (some ⟨g + 1,0,none⟩) 2 2,.int .i64 7,.int .i64 0,.string ⟨#[]⟩,.slice (some ⟨g + 1 + 1,0,none⟩) 2 2,.int .i64 3,.int .i64 0,.string ⟨#[49]⟩,.slice none 0 0] 54,
 .cells #[.slice (some ⟨g + 1 + 1 + 1,0,none⟩) 4 4,.slice none 0 0] 34]
theorem nd7 (l : List Int) : NdOk ⟨7,0,ByteArray.empty,l⟩:=by
 unfold NdOk I64 maxLen
 exact ⟨⟨by show (-9223372036854775808 : Int) <= 7;decide,by show (7 : Int) <= 9223372036854775807;decide⟩,⟨by show (-9223372036854775808 : Int) <= 0;decide,by show (0 : Int) <= 9223372036854775807;decide⟩,by show ByteArray.empty.size <= 2 ^ 63 - 1;decide⟩
theorem zdh1 (w : World) : GIs (yu w (litE w.heap.size)) (some ⟨w.heap.size + 1 + 1 + 1,0,none⟩) 4 4 none 0 0 gE []:=by
 have h0:=yn (w:=w) (os:=litE w.heap.size) (i:=0) rfl
 have h1:=yn (w:=w) (os:=litE w.heap.size) (i:=1) rfl
 have h2:=yn (w:=w) (os:=litE w.heap.size) (i:=2) rfl
 have h3:=yn (w:=w) (os:=litE w.heap.size) (i:=3) rfl
 have b : ∀ l : List Int,(∀ z∈l,0 <= z /\ z < 4) -> ∀ z∈l,I64 z:=fun l h z hz=>by have:=h z hz;unfold I64;omega
 have k0:=zcd (l:=[3,0]) (n:=2) h0 rfl rfl (by omega) (b _ (by simp))
 have k1:=zcd (l:=[3,2]) (n:=2) h1 rfl rfl (by omega) (b _ (by simp))
 have k2:=zcd (l:=[3,1]) (n:=2) h2 rfl rfl (by omega) (b _ (by simp))
 refine ⟨zyd (l:=[(⟨7,0,ByteArray.empty,[3,0]⟩,some ⟨w.heap.size,0,none⟩,2,2),(⟨7,0,ByteArray.empty,[3,2]⟩,some ⟨w.heap.size + 1,0,none⟩,2,2),(⟨7,0,ByteArray.empty,[3,1]⟩,some ⟨w.heap.size + 1 + 1,0,none⟩,2,2),(⟨3,0,⟨#[49]⟩,[]⟩,none,0,0)]) h3 rfl rfl (by omega) (all4 k0 k1 k2 (IRow.nil _ none)) (all4 (nd7 _) (nd7 _) (nd7 _) (by unfold NdOk I64 maxLen;decide)),IRow.nil _ none⟩
theorem zar1 {W wx wy : World} {p o : Nat} {a0 a1 a3 : Value} (h : wx.cell? ⟨p,o,none⟩ = some a0 /\ wx.cell? ⟨p,o + 1,none⟩ = some a1 /\ wx.cell? ⟨p,o + 3,none⟩ = some a3 /\ Below W.heap.size W wx) (hb : Below wx.heap.size wx wy) : wy.cell? ⟨p,o,none⟩ = some a0 /\ wy.cell? ⟨p,o + 1,none⟩ = some a1 /\ wy.cell? ⟨p,o + 3,none⟩ = some a3 /\ Below W.heap.size W wy :=
 ⟨(hb.cell (p:=⟨p,o,none⟩) (kf h.1)).trans h.1,(hb.cell (p:=⟨p,o + 1,none⟩) (kf h.2.1)).trans h.2.1,(hb.cell (p:=⟨p,o + 3,none⟩) (kf h.2.2.1)).trans h.2.2.1,Bt h.2.2.2 hb⟩
theorem zfy {W wx : World} {p o : Nat} {a0 a1 a3 : Value} (h : wx.cell? ⟨p,o,none⟩ = some a0 /\ wx.cell? ⟨p,o + 1,none⟩ = some a1 /\ wx.cell? ⟨p,o + 3,none⟩ = some a3 /\ Below W.heap.size W wx) : Below W.heap.size W wx:=h.2.2.2
set_option maxHeartbeats 16000000 in
theorem zrk (w : World) (hT : x5 w) : Calls Tryz.prog 18 #[] w fun e w'=>e = .returned (.bool true) /\ Below w.heap.size w w':=by
 have hlit:=zdh1 w
 have hb0:=qd (litE w.heap.size) w
 have CL:=hid (zoz (some ⟨w.heap.size + 1 + 1 + 1,0,none⟩) none 4 4 0 0 gE [] _ hlit zaq1 zfk1 (by omega) (hT.below hb0))
 have HTW : Hid (∀ W,Below w.heap.size w W -> x5 W):=fun W hb=>hT.below hb
 have HB0:=hid hb0
 have hbox:=yn (w:=w) (os:=litE w.heap.size) (i:=4) rfl
 have hxx : TxOk oE:=by
  have:=zlk zaq1 zfk1 (by decide)
  rw [zfj1] at this
  exact this
 have HXX:=hid hxx
 unfold GVal zwh at CL
 simp only [zfj1,List.length_cons,List.length_nil] at CL
 unfold litE yu yu yu yu yu yu at CL HB0 hbox
 have c0:=za hbox 0
 have c1:=za hbox 1
 clear hlit hb0 hxx hbox hT
 go_enter Tryz.func18,Tryz.ntmps18
 go_wp2_with (go_at_call 17;refine CL.out.mono ?_;rintro e W2 ⟨v,g,ao,cap,F,vL,ls,B',rfl,u2,h2,r2,_,_,_,b2⟩;have HU2:=hid u2;have HH2:=hid h2;have HB2:=hid (Bt HB0.out b2);clear u2 h2 r2 b2)
 obtain ⟨bb,oo,rfl,_,hcc⟩:=HU2.out.some (by omega)
 have x0:=hcc 0 (by omega)
 have x1:=hcc 1 (by omega)
 have x3:=hcc 3 (by omega)
 simp only [Nat.add_zero,List.getD_cons_zero,List.getD_cons_succ] at x0 x1 x3
 have hf:=HU2.out.fits
 have hm:=HU2.out.most
 unfold maxLen at hm
 obtain ⟨gh,rfl⟩:=HH2.out.ph.ptr
 have u0 : ∀ z : Int,z = 1 \/ z = 25 \/ z = 8 -> U64 z:=fun z h=>by unfold U64;omega
 have C1 : Hid (∀ wx,Below W2.heap.size W2 wx -> Calls Tryz.prog 20 #[.pointer (some ⟨gh,0,none⟩),.int .u64 1,.int .u64 25] wx fun e w'=>e = .returned (.bool false) /\ Below wx.heap.size wx w'):=fun wx hb=>by
  have:=zit 1 25 (u0 _ (by omega)) (u0 _ (by omega)) wx (HH2.out.on hb) (HTW.out wx (Bt HB2.out hb))
  rw [e1v] at this;exact this
 have C2 : Hid (∀ wx,Below W2.heap.size W2 wx -> Calls Tryz.prog 22 #[.pointer (some ⟨gh,0,none⟩),.int .u64 1,.int .u64 25] wx fun e w'=>e = .returned (.bool true) /\ Below wx.heap.size wx w'):=fun wx hb=>by
  have:=zdh 1 25 (u0 _ (by omega)) (u0 _ (by omega)) wx (HH2.out.on hb) (HTW.out wx (Bt HB2.out hb)) HXX.out
  rw [e1a] at this;exact this
 have C3 : Hid (∀ wx,Below W2.heap.size W2 wx -> Calls Tryz.prog 20 #[.pointer (some ⟨gh,0,none⟩),.int .u64 8,.int .u64 8] wx fun e w'=>e = .returned (.bool true) /\ Below wx.heap.size wx w'):=fun wx hb=>by
  have:=zit 8 8 (u0 _ (by omega)) (u0 _ (by omega)) wx (HH2.out.on hb) (HTW.out wx (Bt HB2.out hb))
  rw [e2v] at this;exact this
 have C4 : Hid (∀ wx,Below W2.heap.size W2 wx -> Calls Tryz.prog 22 #[.pointer (some ⟨gh,0,none⟩),.int .u64 1,.int .u64 8] wx fun e w'=>e = .returned (.bool false) /\ Below wx.heap.size wx w'):=fun wx hb=>by
  have:=zdh 1 8 (u0 _ (by omega)) (u0 _ (by omega)) wx (HH2.out.on hb) (HTW.out wx (Bt HB2.out hb)) HXX.out
  rw [e2a] at this;exact this
 have HS0 : Hid (W2.cell? ⟨bb,oo,none⟩ = some (.int .u64 1) /\ W2.cell? ⟨bb,oo + 1,none⟩ = some (.int .u64 25) /\ W2.cell? ⟨bb,oo + 3,none⟩ = some (.int .u64 8) /\ Below W2.heap.size W2 W2):=⟨x0,x1,x3,Below.refl _ _⟩
 clear hcc u0 c0 c1 CL
 go_region_held3 (fun wx=>wx.cell? ⟨bb,oo,none⟩ = some (.int .u64 1) /\ wx.cell? ⟨bb,oo + 1,none⟩ = some (.int .u64 25) /\ wx.cell? ⟨bb,oo + 3,none⟩ = some (.int .u64 8) /\ Below W2.heap.size W2 wx)
  (first | exact zar1 HS0.out (Bd W2 1) | exact zar1 (by assumption) (by assumption))
  (first
   | (go_at_call 20;with_reducible refine (C1.out _ ?_).mono ?_;(exact zfy (by assumption));rintro e wa ⟨rfl,ba⟩)
   | (go_at_call 22;with_reducible refine (C2.out _ ?_).mono ?_;(exact zfy (by assumption));rintro e wb ⟨rfl,bb'⟩)
   | (go_at_call 20;with_reducible refine (C3.out _ ?_).mono ?_;(exact zfy (by assumption));rintro e wc ⟨rfl,bc⟩)
   | (go_at_call 22;with_reducible refine (C4.out _ ?_).mono ?_;(exact zfy (by assumption));rintro e wd ⟨rfl,bd⟩))
 have HBE : Hid (Below W2.heap.size W2 wd):=zfy (p:=bb) (o:=oo) (a0:=.int .u64 1) (a1:=.int .u64 25) (a3:=.int .u64 8) (by assumption)
 rename_i hHeld
 clear hHeld
 go_wp2
 go_ret
 exact ⟨rfl,Bt HB2.out HBE.out⟩
theorem zrl (an ar : Option Addr) (nn cn nr cr : Nat) (ns : List Nd) (rs : List Int) (w : World) (G : GIs w an nn cn ar nr cr ns rs) :
  Calls Tryz.prog 16 #[GVal an nn cn ar nr cr] w fun e w'=>e = .returned (.bool (fewB ns rs 30 && decide (0 < nn))) /\ Below w.heap.size w w':=by
 have hfi:=G.nodes.fits
 have hmo:=G.nodes.most
 unfold maxLen at hmo
 have b0:=Ba w (.cells #[.slice an nn cn,.slice ar nr cr] 34)
 have hbx:=ze w #[.slice an nn cn,.slice ar nr cr] 34
 have CF:=hid (zck1 an ar nn cn nr cr ns rs 30 (by omega) _ (G.below b0))
 obtain ⟨W1,hW1⟩ : ∃ W,W = w.alloc (.cells #[.slice an nn cn,.slice ar nr cr] 34):=⟨_,rfl⟩
 rw [<- hW1] at b0 hbx
 have HB0:=hid b0
 have HX : Hid (∀ W,Below W1.heap.size W1 W -> W.cell? ⟨w.heap.size,0,none⟩ = some (.slice an nn cn)):=fun W hb=>za ((hb.block w.heap.size (by rw [hW1,zb];omega)).trans hbx) 0
 have c0:=za hbx 0
 have c1:=za hbx 1
 rw [hW1] at c0 c1
 have e30 : ((30 : Nat) : Int) = 30:=rfl
 rw [e30] at CF
 obtain ⟨fb,hfb⟩ : ∃ b,b = fewB ns rs 30:=⟨_,rfl⟩
 rw [<- hfb] at CF
 rw [<- hfb]
 unfold GVal at CF
 unfold GVal
 clear G hbx b0 hfb
 have HW1:=hid hW1
 have ed : decide ((0 : Int) < (nn : Int)) = decide (0 < nn):=by
  by_cases h : 0 < nn
  ·rw [decide_eq_true h,decide_eq_true (by omega)]
  ·rw [decide_eq_false h,decide_eq_false (by omega)]
 clear hW1
 cases fb
 ·go_enter Tryz.func16, Tryz.ntmps16
  go_wp2_with (go_at_call 50;refine CF.out.mono ?_;rintro e W2 ⟨rfl,b2⟩;rw [<- HW1.out] at b2;have HB2:=hid (Bt HB0.out b2);clear b2)
  go_ret
  exact ⟨rfl,HB2.out⟩
 ·go_enter Tryz.func16, Tryz.ntmps16
  go_wp2_with (go_at_call 50;refine CF.out.mono ?_;rintro e W2 ⟨rfl,b2⟩;rw [<- HW1.out] at b2;have HB2:=hid (Bt HB0.out b2);have x2:=HX.out W2 b2;clear b2)
  go_ret
  refine ⟨?_,HB2.out⟩
  rw [Bool.true_and,<- ed]
  rfl
theorem zzs {ns : List Nd} (hs : j9 ns) (hk : ∀ d∈ns,d.kids.length <= 100) (hn : ns.length <= 100) : (yo ns).1 = [] \/ (yo ns).1.length = ns.length:=by
 by_cases e : (yo ns).2.1 = 0
 ·right
  have h:=zis (N:=20000) (os:=[]) (nm:=[]) (rs:=y7 ns.length) e hs hk hn (by omega) (by simp)
  rw [yo,h.words]
  unfold pR
  rw [List.length_map,h.len.2,zcp]
 ·left
  rw [yo,(zfx (N:=20000) (os:=[]) (nm:=[]) (ns:=ns) (rs:=y7 ns.length) e).1]
def Bel (W0 W : World) : Prop:=Below W0.heap.size W0 W
theorem zwi (os : List Ob) (x : Int) : eqvB os x x = true:=(zoa x x).2 (Eqv.refl x)
structure zdi (base : Nat) (w : World) (ls : List (Nd × (Option Addr × Nat × Nat))) : Prop where
 own : ∀ x∈ls,w.ownsRow base 3 1 (.slice x.2.1 x.2.2.1 x.2.2.2) x.2.2.1 (cz x.1.kids)
 apart : ls.Pairwise (fun x y=>∀ p q,x.2.1 = some p -> y.2.1 = some q -> p.block ≠ q.block)
structure zgi1 (base b2 : Nat) (w : World) (a1 : Option Addr) (c1 : Nat) (a2 : Option Addr) (nr c2 : Nat) (ls : List (Nd × (Option Addr × Nat × Nat))) (rs : List Int) : Prop where
 nodes : NOwn base w (.slice a1 ls.length c1) ls
 rows : zdi base w ls
 roots : w.ownsRow b2 3 1 (.slice a2 nr c2) nr (cz rs)
 under : ∀ b,(Value.slice a1 ls.length c1).ownBlock = some b -> b < b2
 kunder : ∀ x∈ls,∀ ad,x.2.1 = some ad -> ad.block < b2
 le : base <= b2
 le2 : b2 <= w.heap.size
 bd : ∀ z∈rs,I64 z
theorem zdi.nil (base : Nat) (w : World) : zdi base w []:=⟨fun _ h=>(by cases h),List.Pairwise.nil⟩
theorem zfz {w : World} {base base' : Nat} {e : TypeId} {k : Nat} {v : Value} {n : Nat} {xs : List Value} (h : w.ownsRow base e k v n xs) (hb : base' <= base) : w.ownsRow base' e k v n xs:=by
 refine ⟨h.1,?_⟩
 rcases h.2 with h0 | ⟨g,cap,cur,h1,h2,h3,h4⟩
 ·exact .inl h0
 ·exact .inr ⟨g,cap,cur,h1,Nat.le_trans hb h2,h3,h4⟩
theorem zdi.frame {base : Nat} {w w' : World} {ls : List (Nd × (Option Addr × Nat × Nat))} (h : zdi base w ls) (hb : ∀ x∈ls,∀ b,(Value.slice x.2.1 x.2.2.1 x.2.2.2).ownBlock = some b -> w'.heap[b]? = w.heap[b]?) : zdi base w' ls :=
 ⟨fun x hx=>je (h.own x hx) (fun b hb'=>hb x hx b hb'),h.apart⟩
theorem zdi.push {base base' : Nat} {w' : World} {ls : List (Nd × (Option Addr × Nat × Nat))} {d : Nd} {ak : Option Addr} {nk ck : Nat} (h : zdi base w' ls) (ho : w'.ownsRow base' 3 1 (.slice ak nk ck) nk (cz d.kids)) (hb : base <= base') (hlt : ∀ x∈ls,∀ ad,x.2.1 = some ad -> ad.block < base') : zdi base w' (ls ++ [(d,ak,nk,ck)]):=by
 refine ⟨fun x hx=>?_,List.pairwise_append.2 ⟨h.apart,List.pairwise_singleton _ _,fun x hx y hy p q hp hq=>?_⟩⟩
 ·rcases List.mem_append.1 hx with hx | hx
  ·exact h.own x hx
  ·obtain rfl := List.mem_singleton.1 hx
   exact zfz ho hb
 ·obtain rfl := List.mem_singleton.1 hy
  have h1:=hlt x hx p hp
  have h2:=(ho.lt q.block (by simp only at hq;rw [hq];rfl)).1
  omega
set_option maxHeartbeats 8000000 in
theorem zll (an ar : Option Addr) (nn cn nr cr : Nat) (ns : List Nd) (rs : List Int) (w : World) (G : GIs w an nn cn ar nr cr ns rs) (hk : ∀ d∈ns,d.kids.length <= 2500) (hn : nn <= 2500) (hnr : nr <= 2500) :
  Calls Tryz.prog 60 #[GVal an nn cn ar nr cr] w fun e w'=>∃ a1 c1 a2 c2 ls base b2,e = .returned (GVal a1 ls.length c1 a2 nr c2) /\ ls.map Prod.fst = ns /\ zgi1 base b2 w' a1 c1 a2 nr c2 ls rs /\ w.heap.size <= base /\ Below w.heap.size w w':=by
 have HG:=hid G
 have HK:=hid hk
 have hn1:=G.nodes.fits
 have hn2:=G.nodes.most
 have hr1:=G.roots.fits
 have hr2:=G.roots.most
 have hlen:=G.nodes.len
 have hrl:=G.roots.len
 unfold maxLen at hn2 hr2
 unfold GVal
 clear G hk
 go_enter Tryz.func60,Tryz.ntmps60
 go_wp2_with fail
 have bA : Below w.heap.size w (yu w [(.cells #[.slice an nn cn,.slice ar nr cr] 34),(.cells #[.slice none 0 0,.slice none 0 0] 34),(.cells #[.slice none 0 0,.slice none 0 0] 34)]):=qd _ _
 have x0 : (yu w [(.cells #[.slice an nn cn,.slice ar nr cr] 34),(.cells #[.slice none 0 0,.slice none 0 0] 34),(.cells #[.slice none 0 0,.slice none 0 0] 34)]).heap[w.heap.size]? = some (.cells #[.slice an nn cn,.slice ar nr cr] 34 (0,0)):=yn (i:=0) rfl
 have x2 : (yu w [(.cells #[.slice an nn cn,.slice ar nr cr] 34),(.cells #[.slice none 0 0,.slice none 0 0] 34),(.cells #[.slice none 0 0,.slice none 0 0] 34)]).heap[w.heap.size + 1]? = some (.cells #[.slice none 0 0,.slice none 0 0] 34 (0,0)):=yn (i:=1) rfl
 have x3 : (yu w [(.cells #[.slice an nn cn,.slice ar nr cr] 34),(.cells #[.slice none 0 0,.slice none 0 0] 34),(.cells #[.slice none 0 0,.slice none 0 0] 34)]).heap[w.heap.size + 1 + 1]? = some (.cells #[.slice none 0 0,.slice none 0 0] 34 (0,0)):=yn (i:=2) rfl
 have hsz : (yu w [(.cells #[.slice an nn cn,.slice ar nr cr] 34),(.cells #[.slice none 0 0,.slice none 0 0] 34),(.cells #[.slice none 0 0,.slice none 0 0] 34)]).heap.size = w.heap.size + 1 + 1 + 1:=by simp [yu]
 have hWW : yu w [(.cells #[.slice an nn cn,.slice ar nr cr] 34),(.cells #[.slice none 0 0,.slice none 0 0] 34),(.cells #[.slice none 0 0,.slice none 0 0] 34)] = ((w.alloc (.cells #[.slice an nn cn,.slice ar nr cr] 34)).alloc (.cells #[.slice none 0 0,.slice none 0 0] 34)).alloc (.cells #[.slice none 0 0,.slice none 0 0] 34):=rfl
 rw [<- hWW]
 clear hWW
 generalize yu w [(.cells #[.slice an nn cn,.slice ar nr cr] 34),(.cells #[.slice none 0 0,.slice none 0 0] 34),(.cells #[.slice none 0 0,.slice none 0 0] 34)] = W1 at *
 obtain ⟨go,hgo⟩ : ∃ g,g = w.heap.size + 1 + 1:=⟨_,rfl⟩
 obtain ⟨gr,hgr⟩ : ∃ g,g = w.heap.size + 1:=⟨_,rfl⟩
 obtain ⟨ga,hga⟩ : ∃ g,g = w.heap.size:=⟨_,rfl⟩
 rw [<- hgo] at x3
 rw [<- hgr] at x2
 rw [<- hga] at x0
 rw [<- hgo,<- hgr,<- hga]
 have hne : Hid (ga ≠ go /\ gr ≠ go /\ ga < W1.heap.size /\ gr < W1.heap.size /\ go < W1.heap.size /\ w.heap.size <= gr /\ w.heap.size <= go):=by refine ⟨?_,?_,?_,?_,?_,?_,?_⟩ <;> omega
 have HB1:=hid bA
 have X0:=hid x0
 have X2:=hid x2
 have X3:=hid x3
 have hgtl : go < W1.heap.size:=hne.out.2.2.2.2.1
 clear bA x0 x2 x3 hsz hgo hgr hga
 go_loopw [4] (fun i wr=>∃ m : Nat,m <= nn /\ i = .int .i64 m /\ Hid (∃ vN ls,JInv w W1 go 34 vN ls wr /\ ls.map Prod.fst = ns.take m /\ zdi W1.heap.size wr ls)) (fun i _=>nn - (intOf i).toNat)
 case atStart=>exact ⟨0,Nat.zero_le _,rfl,.slice none 0 0,[],⟨X3.out,fun _ _ _=>rfl,NOwn.nil _ _,HB1.out,Nat.le_refl _⟩,rfl,zdi.nil _ _⟩
 case round =>
  obtain ⟨m,hmn,rfl,hI⟩:=hrel
  obtain ⟨vN,ls,hJ,hls,hTR⟩:=hI.out
  obtain ⟨av,cv,rfl,hNR⟩:=hJ.own.row
  have HJ:=hid hJ
  have HLS:=hid hls
  have HTR:=hid hTR
  have HLM : Hid (ls.length = m):=by
   have:=congrArg List.length hls;simp at this;unfold Hid;omega
  have cb0 : wr.cell? ⟨ga,0,none⟩ = some (.slice an nn cn):=za ((hJ.keep ga hne.out.2.2.1 hne.out.1).trans X0.out) 0
  clear hJ hls hNR hI hTR
  by_cases hlt : m < nn
  ·obtain ⟨b, o, rfl, hlb, hcc⟩ := HG.out.nodes.some (by omega)
   have hml : m < ns.length:=by omega
   have hnd:=(hcc m hlt).below hlb HJ.out.bel
   have hdok:=HG.out.nodes.get hlt
   have htk : Hid (ns.take (m + 1) = ns.take m ++ [ns.getD m default]):=by unfold Hid;rw [List.take_succ_eq_append_getElem hml,List.getD_eq_getElem?_getD,List.getElem?_eq_getElem hml];rfl
   have hkl:=HK.out _ (zw hml)
   generalize ns.getD m default = d at *
   obtain ⟨j1,j2,j3,ak,nk,ck,j4,j5⟩:=hnd
   obtain ⟨dk,dn,dt,dl⟩:=d
   simp only [] at j1 j2 j3 j5 hdok hkl
   have HDOK:=hid hdok
   have hnk:=j5.fits
   have hnk2:=j5.most
   have hnk3:=j5.len
   have hnk4 : nk <= 2500:=by omega
   unfold maxLen at hnk2
   have HKB:=hid j5.bd
   have bX:=Ba wr (.cells #[.int .i64 dk,.int .i64 dn,.string dt,.slice ak nk ck] 54)
   have bE:=Ba (wr.alloc (.cells #[.int .i64 dk,.int .i64 dn,.string dt,.slice ak nk ck] 54)) (.cells #[] 3)
   have hxb:=ze wr #[.int .i64 dk,.int .i64 dn,.string dt,.slice ak nk ck] 54
   have hxb2:=(bE.block wr.heap.size (by rw [zb];omega)).trans hxb
   have hx3 : ((wr.alloc (.cells #[.int .i64 dk,.int .i64 dn,.string dt,.slice ak nk ck] 54)).alloc (.cells #[] 3)).cell? ⟨wr.heap.size,3,none⟩ = some (.slice ak nk ck):=za hxb2 3
   have J5:=hid ((j5.below bX).below bE)
   have HOE : Hid (((wr.alloc (.cells #[.int .i64 dk,.int .i64 dn,.string dt,.slice ak nk ck] 54)).alloc (.cells #[] 3)).ownsRow (wr.heap.size + 1) 3 1 (.slice (some ⟨wr.heap.size + 1,0,none⟩) 0 0) 0 (cz [])):=by
    have h1 : ((wr.alloc (.cells #[.int .i64 dk,.int .i64 dn,.string dt,.slice ak nk ck] 54)).alloc (.cells #[] 3)).heap[wr.heap.size + 1]? = some (.cells #[] 3 (0,0)):=heap_alloc2_new wr (.cells #[.int .i64 dk,.int .i64 dn,.string dt,.slice ak nk ck] 54) (.cells #[] 3)
    exact zuo h1 rfl rfl (by omega) _ (Nat.le_refl _)
   have hsz2 : ((wr.alloc (.cells #[.int .i64 dk,.int .i64 dn,.string dt,.slice ak nk ck] 54)).alloc (.cells #[] 3)).heap.size = wr.heap.size + 1 + 1:=by rw [zb,zb]
   have HXE:=hid (Bt bX bE)
   have HXB:=hid hxb2
   clear hcc hdok j5 bX bE hxb hxb2
   have hsmall : ls.length <= 1000000:=by have:=HLM.out;omega
   have hs3 : wr.heap.size + 1 < ((wr.alloc (.cells #[.int .i64 dk,.int .i64 dn,.string dt,.slice ak nk ck] 54)).alloc (.cells #[] 3)).heap.size:=by rw [hsz2];omega
   go_wp2_with (first
    | (at_builtin;refine zev1 rfl _ _ 32 rfl (wr.heap.size + 1) 3 Tryz.underlying32 jm _ 0 [] rfl HOE.out ak nk ck dl rfl J5.out (by omega) (by rw [hsz2];omega) ?_;intro v w5 hown hgrow;rw [Nat.zero_add,List.nil_append] at hown;obtain ⟨ak',ck',rfl,hIR⟩:=j8 hown HKB.out;have TF:=hid (zqn HJ.out rfl HXE.out hs3 HXB.out hgrow hown HKB.out);obtain ⟨f3,cc3⟩:=And.intro TF.out.f3 TF.out.cc3;have n0:=TF.out.n0;have n1:=TF.out.n1;have n2:=TF.out.n2;have n3:=TF.out.n3;have g0c:=TF.out.g0;have HO5:=hid hown;clear hown hgrow hIR)
    | (at_builtin;refine appn rfl _ _ 31 rfl W1.heap.size 54 Tryz.underlying31 xv _ _ (ncs ls) rfl TF.out.no.own w5.heap.size 1 (⟨dk,dn,dt,dl⟩,ak',nk,ck') rfl (fun j u hj=>zct TF.out.na hj) hsmall (Nat.le_trans HJ.out.size TF.out.ba.size) ?_;intro g cap w6 hown hgrow hloc hglt;obtain ⟨q1,q2⟩:=nfar TF.out.no hgrow TF.out.ga hgtl))
   have hNP:=TF.out.no.pushed (d:=(⟨dk,dn,dt,dl⟩,ak',nk,ck')) hgtl hown hgrow hloc HDOK.out TF.out.ia (fun ad had=>?kb)
   case kb =>
    obtain ⟨z1,z2⟩:=TF.out.ka ad had
    have s1:=HJ.out.size
    refine ⟨by omega,z2,fun e=>?_⟩
    have:=HJ.out.own.own.lt _ e
    omega
   have hrowge : ∀ k,(Value.slice av ls.length cv).ownBlock = some k -> W1.heap.size <= k:=fun k hk=>(HJ.out.own.own.lt k hk).1
   have hB6 : Below W1.heap.size wr w6:=(TF.out.ba.mono HJ.out.size).grown hgrow (Nat.le_trans HJ.out.size TF.out.ba.size) hrowge
   have hgo6:=(hgrow.block go (Array.getElem?_eq_some_iff.1 TF.out.ga).1 (fun e=>by have:=hrowge go e.symm;omega)).trans TF.out.ga
   refine ⟨⟨m + 1,by omega,by go_num,.slice (some ⟨g,0,none⟩) (ls.length + 1) cap,ls ++ [(⟨dk,dn,dt,dl⟩,ak',nk,ck')],⟨?_,fun b hb hbg=>?_,hNP,?_,?_⟩,?_,?_⟩,by simp [intOf] <;> omega⟩
   ·have:=zq (i:=0) hgo6 (.slice (some ⟨g,0,none⟩) (ls.length + 1) cap);rw [this];rfl
   ·exact (Below.heap_setCell _ _ _ _ hbg).trans ((hB6.block b hb).trans (HJ.out.keep b hb hbg))
   ·exact (HJ.out.bel.trans (hB6.mono HB1.out.size)).setCell (p:=⟨go,0,none⟩) hne.out.2.2.2.2.2.2 _
   ·have:=hB6.size;have:=HJ.out.size;simp [World.setCell];omega
   ·rw [htk.out,List.map_append,HLS.out];rfl
   ·have hgb : ∀ b, W1.heap.size <= b -> b < ((w5.setCell ⟨wr.heap.size, 3, none⟩ (.slice ak' nk ck')).alloc (.cells #[.int .i64 dk, .int .i64 dn, .string dt, .slice ak' nk ck'] 54)).heap.size -> (Value.slice av ls.length cv).ownBlock ≠ some b -> (w6.setCell ⟨go, 0, none⟩ (.slice (some ⟨g, 0, none⟩) (ls.length + 1) cap)).heap[b]? = ((w5.setCell ⟨wr.heap.size, 3, none⟩ (.slice ak' nk ck')).alloc (.cells #[.int .i64 dk, .int .i64 dn, .string dt, .slice ak' nk ck'] 54)).heap[b]? := fun b h1 h2 h3 =>
     (Below.heap_setCell _ _ _ _ (by show b ≠ go;omega)).trans (hgrow.block b h2 (fun e=>h3 e.symm))
    have hs4 : (w5.setCell ⟨wr.heap.size,3,none⟩ (.slice ak' nk ck')).heap.size = w5.heap.size:=by simp [World.setCell]
    have s1:=HJ.out.size
    refine zdi.push (base':=wr.heap.size + 1) (HTR.out.frame (fun x hx b hb=>?_)) (je HO5.out (fun b hb=>?_)) (by omega) (fun x hx ad had=>by have:=((HJ.out.own.kids x hx).2 ad had).2.1;omega)
    ·obtain ⟨ad, had, rfl⟩ : ∃ ad : Addr, x.2.1 = some ad /\ ad.block = b := by
      cases e : x.2.1 with
      | none=>rw [e] at hb;cases hb
      | some ad=>rw [e] at hb;exact ⟨ad,rfl,by injection hb⟩
     obtain ⟨r1,r2,r3⟩:=(HJ.out.own.kids x hx).2 ad had
     exact (hgb _ r1 (Nat.lt_of_lt_of_le r2 TF.out.ba.size) r3).trans (TF.out.ba.block _ r2)
    ·obtain ⟨l1, l2⟩ := HO5.out.lt b hb
     refine (hgb b (by omega) (by rw [zb,hs4];omega) (fun e=>by have:=(HJ.out.own.own.lt b e).2;omega)).trans ?_
     exact ((Ba _ _).block b (by rw [hs4];exact l2)).trans (Below.heap_setCell _ _ _ _ (by show b ≠ wr.heap.size;omega))
  ·obtain rfl : nn = m := by omega
   have hls:=HLS.out
   rw [List.take_of_length_le (by omega)] at hls
   have HLT:=hid hls
   have ca1 : wr.cell? ⟨ga,1,none⟩ = some (.slice ar nr cr):=za ((HJ.out.keep ga hne.out.2.2.1 hne.out.1).trans X0.out) 1
   have co1 : wr.cell? ⟨go,1,none⟩ = some (.slice none 0 0):=za HJ.out.out 1
   have RA:=hid (HG.out.roots.below HJ.out.bel)
   have HRB:=hid RA.out.bd
   have hY:=HJ.out.out
   have hR:=(HJ.out.keep gr hne.out.2.2.2.1 hne.out.2.1).trans X2.out
   have HYY:=hid hY
   have HRR:=hid hR
   have hgow : Hid (go < wr.heap.size /\ gr < wr.heap.size):=⟨(Array.getElem?_eq_some_iff.1 hY).1,(Array.getElem?_eq_some_iff.1 hR).1⟩
   clear hls HLS HLM hmn hlt hY hR
   go_wp2_with (at_builtin;refine zev1 rfl _ _ 32 rfl wr.heap.size 3 Tryz.underlying32 jm _ 0 [] rfl (World.ownsRow_nil _ _ _ _) ar nr cr rs rfl RA.out (by omega) (Nat.le_refl _) ?_;intro v w5 hown hgrow;rw [Nat.zero_add,List.nil_append] at hown;obtain ⟨a3,c3,rfl,hI3⟩:=j8 hown HRB.out;have b5 : Below wr.heap.size wr w5:=(Below.refl _ _).grown hgrow (Nat.le_refl _) (fun k hk=>by cases hk);have y5:=(b5.block go hgow.out.1).trans HYY.out;have r5:=(b5.block gr hgow.out.2).trans HRR.out;have HB5:=hid b5;have HI3:=hid hI3;have HO5:=hid hown;have HY5:=hid y5;have HR5:=hid r5;have q1:=zc y5 1;have q2:=za y5 1;clear hown hgrow hI3;have y6 : (w5.setCell ⟨go,1,none⟩ (.slice a3 nr c3)).heap[go]? = some (.cells #[.slice av ls.length cv,.slice a3 nr c3] 34 (0,0)):=(zq (i:=1) y5 (.slice a3 nr c3)).trans rfl;have r6:=(Below.heap_setCell w5 ⟨go,1,none⟩ (.slice a3 nr c3) gr hne.out.2.1).trans r5;have c0:=za y6 0;have c1:=za y6 1;have d0:=za r6 0;have d1:=za r6 1;have e0:=zc r6 0;have e1:=zc r6 1;have HR6:=hid r6;clear y5 r5 y6 r6 b5)
   have hst:=fd (v1:=.slice av ls.length cv) (v2:=.slice a3 nr c3) HR6.out
   have t0:=za hst 0
   have t1:=za hst 1
   (try simp only [Exit.inBlock,Exit.then]);refine bodyPost_ret (by simp [results,Tryz.results60,go_sem,t0,t1];rfl) rfl ?_
   have N5:=HJ.out.own.below HB5.out
   have N7 : NOwn W1.heap.size (((w5.setCell ⟨go,1,none⟩ (.slice a3 nr c3)).setCell ⟨gr,0,none⟩ (.slice av ls.length cv)).setCell ⟨gr,1,none⟩ (.slice a3 nr c3)) (.slice av ls.length cv) ls:=N5.frame (fun b hb=>(jj (by have:=hne.out;omega)).trans (Below.heap_setCell _ _ _ _ (by show b ≠ go;have:=hne.out;omega))) (by simp [World.setCell])
   refine ⟨_,_,_,_,ls,W1.heap.size,wr.heap.size,rfl,HLT.out,⟨N7,?_,?_,fun b hb=>?_,fun x hx ad had=>((HJ.out.own.kids x hx).2 ad had).2.1,HJ.out.size,(by have:=HB5.out.size;simpa [World.setCell] using this),HRB.out⟩,HB1.out.size,yw (((HJ.out.bel.trans (HB5.out.mono HJ.out.bel.size))).setCell (p:=⟨go,1,none⟩) hne.out.2.2.2.2.2.2 _) hne.out.2.2.2.2.2.1⟩
   ·refine HTR.out.frame (fun x hx b hb => ?_)
    obtain ⟨l1,l2⟩:=(HTR.out.own x hx).lt b hb
    exact (jj (by have:=hne.out;omega)).trans ((Below.heap_setCell _ _ _ _ (by show b ≠ go;have:=hne.out;omega)).trans (HB5.out.block b l2))
   ·refine je HO5.out (fun b hb => ?_)
    obtain ⟨l1,l2⟩:=HO5.out.lt b hb
    exact (jj (by have:=hgow.out;omega)).trans (Below.heap_setCell _ _ _ _ (by show b ≠ go;have:=hgow.out;omega))
   ·exact (HJ.out.own.own.lt b hb).2
theorem NOwn.pushed_at {base : Nat} {w : World} {v : Value} {l : List (Nd × (Option Addr × Nat × Nat))} (h : NOwn base w v l) {w' : World} {g cap go : Nat} {d : Nd × (Option Addr × Nat × Nat)} (hgl : go < w.heap.size) (hgo : v.ownBlock ≠ some go)
  (ho : w'.ownsRow base 54 4 (.slice (some ⟨g,0,none⟩) (l.length + 1) cap) (l.length + 1) (ncs l ++ nc d)) (hg : w.grownBy w' v.ownBlock) (hl : v.ownBlock = some g \/ g = w.heap.size) (hd : NdOk d.1)
  (hk : IRow w d.2.1 d.2.2.1 d.2.2.2 d.1.kids) (hkb : ∀ ad,d.2.1 = some ad -> base <= ad.block /\ ad.block < w.heap.size /\ v.ownBlock ≠ some ad.block) (hkg : ∀ x∈l ++ [d],∀ ad,x.2.1 = some ad -> ad.block ≠ go) :
  NOwn base (w'.setCell ⟨go,0,none⟩ (.slice (some ⟨g,0,none⟩) (l.length + 1) cap)) (.slice (some ⟨g,0,none⟩) (l.length + 1) cap) (l ++ [d]):=by
 have hgb : base <= g:=by
  rcases ho.2 with ⟨h,_⟩ | ⟨g',cap',cur,h,h2,_⟩
  ·cases h
  ·cases h;exact h2
 have hggo : g ≠ go:=by
  rcases hl with h' | h'
  ·intro e;exact hgo (by rw [h',e])
  ·omega
 have hs : (w'.setCell ⟨go,0,none⟩ (.slice (some ⟨g,0,none⟩) (l.length + 1) cap)).heap.size = w'.heap.size:=by simp [World.setCell]
 have key : ∀ (x : Nd × (Option Addr × Nat × Nat)),IRow w x.2.1 x.2.2.1 x.2.2.2 x.1.kids -> (∀ ad,x.2.1 = some ad -> base <= ad.block /\ ad.block < w.heap.size /\ v.ownBlock ≠ some ad.block) -> (∀ ad,x.2.1 = some ad -> ad.block ≠ go) ->
   IRow (w'.setCell ⟨go,0,none⟩ (.slice (some ⟨g,0,none⟩) (l.length + 1) cap)) x.2.1 x.2.2.1 x.2.2.2 x.1.kids /\ (∀ ad,x.2.1 = some ad -> base <= ad.block /\ ad.block < (w'.setCell ⟨go,0,none⟩ (.slice (some ⟨g,0,none⟩) (l.length + 1) cap)).heap.size /\ (Value.slice (some ⟨g,0,none⟩) (l.length + 1) cap).ownBlock ≠ some ad.block):=by
  intro x hx hxb hxg
  refine ⟨hx.frame (by rw [hs];exact hg.size) (fun ad had=>?_),fun ad had=>?_⟩
  ·obtain ⟨q1, q2, q3⟩ := hxb ad had
   exact (Below.heap_setCell _ _ _ _ (hxg ad had)).trans (hg.block _ q2 (fun e=>q3 e.symm))
  ·obtain ⟨q1, q2, q3⟩ := hxb ad had
   refine ⟨q1,by rw [hs];exact Nat.lt_of_lt_of_le q2 hg.size,fun e=>?_⟩
   have e' : g = ad.block:=Option.some.inj e
   rcases hl with h' | h'
   ·exact q3 (by rw [h',e'])
   ·omega
 refine ⟨?_,?_,?_⟩
 ·rw [zdu, List.length_append, List.length_singleton]
  refine ⟨ho.1,?_⟩
  rcases ho.2 with ⟨h,_⟩ | ⟨g',cap',cur,h1,h2,h3,h4⟩
  ·cases h
  ·cases h1
   exact .inr ⟨g,cap,cur,rfl,h2,(Below.heap_setCell _ _ _ _ hggo).trans h3,h4⟩
 ·intro x hx
  rcases List.mem_append.1 hx with hx | hx
  ·exact key x (h.kids x hx).1 (h.kids x hx).2 (hkg x (List.mem_append.2 (.inl hx)))
  ·obtain rfl : x = d := by simpa using hx
   exact key x hk hkb (hkg x (List.mem_append.2 (.inr (List.mem_singleton.2 rfl))))
 ·intro x hx
  rcases List.mem_append.1 hx with hx | hx
  ·exact h.ok x hx
  ·obtain rfl : x = d := by simpa using hx
   exact hd
theorem zdi1 {go : Nat} {w w' : World} {v : Value} (hg : w.grownBy w' v.ownBlock) {a b : Value} {t : TypeId} (hc : w.heap[go]? = some (.cells #[a,b] t (0,0))) (hgo : v.ownBlock ≠ some go) : w'.heap[go]? = some (.cells #[a,b] t (0,0)) :=
 (hg.block go (Array.getElem?_eq_some_iff.1 hc).1 (fun e=>hgo e.symm)).trans hc
theorem zzt {w : World} {base : Nat} {e : TypeId} {g n cap : Nat} {xs : List Value} (h : w.ownsRow base e 1 (.slice (some ⟨g,0,none⟩) n cap) n xs) {k : Nat} (v : Value) : (w.setCell ⟨g,k,none⟩ v).ownsRow base e 1 (.slice (some ⟨g,0,none⟩) n cap) n (xs.set k v):=by
 refine ⟨by rw [List.length_set];exact h.1,?_⟩
 rcases h.2 with ⟨h0,_⟩ | ⟨g',cap',cur,h1,h2,h3,h4,h5,h6,h7⟩
 ·cases h0
 ·cases h1
  refine .inr ⟨g,cap,cur.setIfInBounds k v,rfl,h2,zq (i:=k) h3 v,h4,h5,by simpa using h6,?_⟩
  rw [<- h7,Array.toList_setIfInBounds,List.take_set]
theorem ziw {w : World} {base : Nat} {e : TypeId} {g n cap : Nat} {xs : List Value} (h : w.ownsRow base e 1 (.slice (some ⟨g,0,none⟩) n cap) n xs) {k : Nat} (hk : k < n) : w.frozen? ⟨g,k,none⟩ = false /\ w.cell? ⟨g,k,none⟩ = xs[k]?:=by
 rcases h.2 with ⟨h0,_⟩ | ⟨g',cap',cur,h1,h2,h3,h4,h5,h6,h7⟩
 ·cases h0
 ·cases h1
  refine ⟨zc h3 k,(za h3 k).trans ?_⟩
  rw [<- h7,List.getElem?_take,if_pos (by omega)]
  simp
end Go.Proofs.YticimejfjjmikaaGreatDoor
