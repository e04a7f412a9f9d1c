import Derived.Test.YticimejfjjmikaaGreatDoorQ14
import Derived.Test.YticimejfjjmikaaGreatDoorST5
import Derived.Test.YticimejfjjmikaaGreatDoorW36
import Derived.Test.YticimejfjjmikaaGreatDoorW5
set_option linter.unusedVariables false
set_option linter.unusedSimpArgs false
set_option maxRecDepth 100000
namespace Go.Proofs.YticimejfjjmikaaGreatDoor
open Go.RowKit
def gE : List Nd:=[⟨7,0,ByteArray.empty,[3,0]⟩,⟨7,0,ByteArray.empty,[3,2]⟩,⟨7,0,ByteArray.empty,[3,1]⟩,⟨3,0,⟨#[49]⟩,[]⟩]
def oE : List Ob:=[⟨1,[8,1]⟩,⟨1,[8,49]⟩,⟨1,[8,25]⟩]
theorem laidE : laidR gE = ([1,25,49,8],0,oE,[]):=by kernel_rfl
theorem all4 {α : Type} {p : α -> Prop} {a b c d : α} (h1 : p a) (h2 : p b) (h3 : p c) (h4 : p d) : ∀ x∈[a,b,c,d],p x:=fun x hx=>by
 simp only [List.mem_cons,List.not_mem_nil,or_false] at hx
 rcases hx with rfl | rfl | rfl | rfl
 ·exact h1
 ·exact h2
 ·exact h3
 ·exact h4
theorem smallE : smallG gE:=all4 (by decide) (by decide) (by decide) (by decide)
theorem kidsE : ∀ d∈gE,d.kids.length <= 100:=all4 (by decide) (by decide) (by decide) (by decide)
theorem e1v : eqvB oE 1 25 = false:=by kernel_rfl
theorem e2v : eqvB oE 8 8 = true:=by kernel_rfl
theorem hE1 : hpO oE 1 = some (1,[8,1]):=by kernel_rfl
theorem hE25 : hpO oE 25 = some (1,[8,49]):=by kernel_rfl
theorem hE49 : hpO oE 49 = some (1,[8,25]):=by kernel_rfl
theorem hE8 : hpO oE 8 = none:=by kernel_rfl
theorem e1a : alikeB oE 1 25 = true:=by
 refine (alikeB_iff _ _ _).2 ⟨fun x y=>x = y \/ x = 1 /\ (y = 25 \/ y = 49),fun x y h=>?_,.inr ⟨rfl,.inl rfl⟩⟩
 rcases h with h | ⟨rfl,rfl | rfl⟩
 ·exact .inl (.inl h)
 ·refine .inr ⟨1, [8, 1], [8, 49], hE1, hE25, by omega, rfl, fun j hj => ?_⟩
  have : j = 0 \/ j = 1:=by simp at hj;omega
  rcases this with rfl | rfl
  ·exact .inl rfl
  ·exact .inr ⟨rfl,.inr rfl⟩
 ·refine .inr ⟨1, [8, 1], [8, 25], hE1, hE49, by omega, rfl, fun j hj => ?_⟩
  have : j = 0 \/ j = 1:=by simp at hj;omega
  rcases this with rfl | rfl
  ·exact .inl rfl
  ·exact .inr ⟨rfl,.inl rfl⟩
theorem e2a : alikeB oE 1 8 = false:=by
 refine alikeB_no (fun h=>?_)
 rcases alike_bis 1 8 h with (h | ⟨f,_,h2,_⟩) | ⟨k,f,g,_,h2,_⟩
 ·omega
 ·rw [hE8] at h2;cases h2
 ·rw [hE8] at h2;cases h2
def litE (g : Nat) : List Obj:=[.cells #[.int .i64 3,.int .i64 0] 3,.cells #[.int .i64 3,.int .i64 2] 3,.cells #[.int .i64 3,.int .i64 1] 3,
 .cells #[.int .i64 7,.int .i64 0,.string ⟨#[]⟩,.slice (some ⟨g,0,none⟩) 2 2,.int .i64 7,.int .i64 0,.string ⟨#[]⟩,.slice (some ⟨g + 1,0,none⟩) 2 2,.int .i64 7,.int .i64 0,.string ⟨#[]⟩,.slice (some ⟨g + 1 + 1,0,none⟩) 2 2,.int .i64 3,.int .i64 0,.string ⟨#[49]⟩,.slice none 0 0] 54,
 .cells #[.slice (some ⟨g + 1 + 1 + 1,0,none⟩) 4 4,.slice none 0 0] 34]
theorem nd7 (l : List Int) : NdOk ⟨7,0,ByteArray.empty,l⟩:=by
 unfold NdOk I64 maxLen
 exact ⟨⟨by show (-9223372036854775808 : Int) <= 7;decide,by show (7 : Int) <= 9223372036854775807;decide⟩,⟨by show (-9223372036854775808 : Int) <= 0;decide,by show (0 : Int) <= 9223372036854775807;decide⟩,by show ByteArray.empty.size <= 2 ^ 63 - 1;decide⟩
theorem litE_ok (w : World) : GIs (allocs w (litE w.heap.size)) (some ⟨w.heap.size + 1 + 1 + 1,0,none⟩) 4 4 none 0 0 gE []:=by
 have h0:=allocs_get (w:=w) (os:=litE w.heap.size) (i:=0) rfl
 have h1:=allocs_get (w:=w) (os:=litE w.heap.size) (i:=1) rfl
 have h2:=allocs_get (w:=w) (os:=litE w.heap.size) (i:=2) rfl
 have h3:=allocs_get (w:=w) (os:=litE w.heap.size) (i:=3) rfl
 have b : ∀ l : List Int,(∀ z∈l,0 <= z /\ z < 4) -> ∀ z∈l,I64 z:=fun l h z hz=>by have:=h z hz;unfold I64;omega
 have k0:=lit_ints (l:=[3,0]) (n:=2) h0 rfl rfl (by omega) (b _ (by simp))
 have k1:=lit_ints (l:=[3,2]) (n:=2) h1 rfl rfl (by omega) (b _ (by simp))
 have k2:=lit_ints (l:=[3,1]) (n:=2) h2 rfl rfl (by omega) (b _ (by simp))
 refine ⟨lit_nrow (l:=[(⟨7,0,ByteArray.empty,[3,0]⟩,some ⟨w.heap.size,0,none⟩,2,2),(⟨7,0,ByteArray.empty,[3,2]⟩,some ⟨w.heap.size + 1,0,none⟩,2,2),(⟨7,0,ByteArray.empty,[3,1]⟩,some ⟨w.heap.size + 1 + 1,0,none⟩,2,2),(⟨3,0,⟨#[49]⟩,[]⟩,none,0,0)]) h3 rfl rfl (by omega) (all4 k0 k1 k2 (IRow.nil _ none)) (all4 (nd7 _) (nd7 _) (nd7 _) (by unfold NdOk I64 maxLen;decide)),IRow.nil _ none⟩
theorem gq4_on {W wx wy : World} {p o : Nat} {a0 a1 a3 : Value} (h : wx.cell? ⟨p,o,none⟩ = some a0 /\ wx.cell? ⟨p,o + 1,none⟩ = some a1 /\ wx.cell? ⟨p,o + 3,none⟩ = some a3 /\ Below W.heap.size W wx) (hb : Below wx.heap.size wx wy) : wy.cell? ⟨p,o,none⟩ = some a0 /\ wy.cell? ⟨p,o + 1,none⟩ = some a1 /\ wy.cell? ⟨p,o + 3,none⟩ = some a3 /\ Below W.heap.size W wy :=
 ⟨(hb.cell (p:=⟨p,o,none⟩) (cell_lt h.1)).trans h.1,(hb.cell (p:=⟨p,o + 1,none⟩) (cell_lt h.2.1)).trans h.2.1,(hb.cell (p:=⟨p,o + 3,none⟩) (cell_lt h.2.2.1)).trans h.2.2.1,Bt h.2.2.2 hb⟩
theorem gq4_bel {W wx : World} {p o : Nat} {a0 a1 a3 : Value} (h : wx.cell? ⟨p,o,none⟩ = some a0 /\ wx.cell? ⟨p,o + 1,none⟩ = some a1 /\ wx.cell? ⟨p,o + 3,none⟩ = some a3 /\ Below W.heap.size W wx) : Below W.heap.size W wx:=h.2.2.2
set_option maxHeartbeats 16000000 in
theorem eawake_any (w : World) (hT : TabsS w) : Calls Tryz.prog 18 #[] w fun e w'=>e = .returned (.bool true) /\ Below w.heap.size w w':=by
 have hlit:=litE_ok w
 have hb0:=allocs_below (litE w.heap.size) w
 have CL:=hid (laid_any (some ⟨w.heap.size + 1 + 1 + 1,0,none⟩) none 4 4 0 0 gE [] _ hlit smallE kidsE (by omega) (hT.below hb0))
 have HTW : Hid (∀ W,Below w.heap.size w W -> TabsS W):=fun W hb=>hT.below hb
 have HB0:=hid hb0
 have hbox:=allocs_get (w:=w) (os:=litE w.heap.size) (i:=4) rfl
 have hxx : TxOk oE:=by
  have:=laid_text smallE kidsE (by decide)
  rw [laidE] at this
  exact this
 have HXX:=hid hxx
 unfold GVal LaidP at CL
 simp only [laidE,List.length_cons,List.length_nil] at CL
 unfold litE allocs allocs allocs allocs allocs allocs at CL HB0 hbox
 have c0:=blk_cell hbox 0
 have c1:=blk_cell hbox 1
 clear hlit hb0 hxx hbox hT
 go_enter Tryz.func18,Tryz.ntmps18
 go_wp2_with (go_at_call 17;refine CL.out.mono ?_;rintro e W2 ⟨v,g,ao,cap,F,vL,ls,B',rfl,u2,h2,r2,_,_,_,b2⟩;have HU2:=hid u2;have HH2:=hid h2;have HB2:=hid (Bt HB0.out b2);clear u2 h2 r2 b2)
 obtain ⟨bb,oo,rfl,_,hcc⟩:=HU2.out.some (by omega)
 have x0:=hcc 0 (by omega)
 have x1:=hcc 1 (by omega)
 have x3:=hcc 3 (by omega)
 simp only [Nat.add_zero,List.getD_cons_zero,List.getD_cons_succ] at x0 x1 x3
 have hf:=HU2.out.fits
 have hm:=HU2.out.most
 unfold maxLen at hm
 obtain ⟨gh,rfl⟩:=HH2.out.ph.ptr
 have u0 : ∀ z : Int,z = 1 \/ z = 25 \/ z = 8 -> U64 z:=fun z h=>by unfold U64;omega
 have C1 : Hid (∀ wx,Below W2.heap.size W2 wx -> Calls Tryz.prog 20 #[.pointer (some ⟨gh,0,none⟩),.int .u64 1,.int .u64 25] wx fun e w'=>e = .returned (.bool false) /\ Below wx.heap.size wx w'):=fun wx hb=>by
  have:=eeqv_any 1 25 (u0 _ (by omega)) (u0 _ (by omega)) wx (HH2.out.on hb) (HTW.out wx (Bt HB2.out hb))
  rw [e1v] at this;exact this
 have C2 : Hid (∀ wx,Below W2.heap.size W2 wx -> Calls Tryz.prog 22 #[.pointer (some ⟨gh,0,none⟩),.int .u64 1,.int .u64 25] wx fun e w'=>e = .returned (.bool true) /\ Below wx.heap.size wx w'):=fun wx hb=>by
  have:=eequal_any 1 25 (u0 _ (by omega)) (u0 _ (by omega)) wx (HH2.out.on hb) (HTW.out wx (Bt HB2.out hb)) HXX.out
  rw [e1a] at this;exact this
 have C3 : Hid (∀ wx,Below W2.heap.size W2 wx -> Calls Tryz.prog 20 #[.pointer (some ⟨gh,0,none⟩),.int .u64 8,.int .u64 8] wx fun e w'=>e = .returned (.bool true) /\ Below wx.heap.size wx w'):=fun wx hb=>by
  have:=eeqv_any 8 8 (u0 _ (by omega)) (u0 _ (by omega)) wx (HH2.out.on hb) (HTW.out wx (Bt HB2.out hb))
  rw [e2v] at this;exact this
 have C4 : Hid (∀ wx,Below W2.heap.size W2 wx -> Calls Tryz.prog 22 #[.pointer (some ⟨gh,0,none⟩),.int .u64 1,.int .u64 8] wx fun e w'=>e = .returned (.bool false) /\ Below wx.heap.size wx w'):=fun wx hb=>by
  have:=eequal_any 1 8 (u0 _ (by omega)) (u0 _ (by omega)) wx (HH2.out.on hb) (HTW.out wx (Bt HB2.out hb)) HXX.out
  rw [e2a] at this;exact this
 have HS0 : Hid (W2.cell? ⟨bb,oo,none⟩ = some (.int .u64 1) /\ W2.cell? ⟨bb,oo + 1,none⟩ = some (.int .u64 25) /\ W2.cell? ⟨bb,oo + 3,none⟩ = some (.int .u64 8) /\ Below W2.heap.size W2 W2):=⟨x0,x1,x3,Below.refl _ _⟩
 clear hcc u0 c0 c1 CL
 go_region_held3 (fun wx=>wx.cell? ⟨bb,oo,none⟩ = some (.int .u64 1) /\ wx.cell? ⟨bb,oo + 1,none⟩ = some (.int .u64 25) /\ wx.cell? ⟨bb,oo + 3,none⟩ = some (.int .u64 8) /\ Below W2.heap.size W2 wx)
  (first | exact gq4_on HS0.out (Bd W2 1) | exact gq4_on (by assumption) (by assumption))
  (first
   | (go_at_call 20;with_reducible refine (C1.out _ ?_).mono ?_;(exact gq4_bel (by assumption));rintro e wa ⟨rfl,ba⟩)
   | (go_at_call 22;with_reducible refine (C2.out _ ?_).mono ?_;(exact gq4_bel (by assumption));rintro e wb ⟨rfl,bb'⟩)
   | (go_at_call 20;with_reducible refine (C3.out _ ?_).mono ?_;(exact gq4_bel (by assumption));rintro e wc ⟨rfl,bc⟩)
   | (go_at_call 22;with_reducible refine (C4.out _ ?_).mono ?_;(exact gq4_bel (by assumption));rintro e wd ⟨rfl,bd⟩))
 have HBE : Hid (Below W2.heap.size W2 wd):=gq4_bel (p:=bb) (o:=oo) (a0:=.int .u64 1) (a1:=.int .u64 25) (a3:=.int .u64 8) (by assumption)
 rename_i hHeld
 clear hHeld
 go_wp2
 go_ret
 exact ⟨rfl,Bt HB2.out HBE.out⟩
theorem esmall_any (an ar : Option Addr) (nn cn nr cr : Nat) (ns : List Nd) (rs : List Int) (w : World) (G : GIs w an nn cn ar nr cr ns rs) :
  Calls Tryz.prog 16 #[GVal an nn cn ar nr cr] w fun e w'=>e = .returned (.bool (fewB ns rs 30 && decide (0 < nn))) /\ Below w.heap.size w w':=by
 have hfi:=G.nodes.fits
 have hmo:=G.nodes.most
 unfold maxLen at hmo
 have b0:=Ba w (.cells #[.slice an nn cn,.slice ar nr cr] 34)
 have hbx:=blk_new w #[.slice an nn cn,.slice ar nr cr] 34
 have CF:=hid (few_any an ar nn cn nr cr ns rs 30 (by omega) _ (G.below b0))
 obtain ⟨W1,hW1⟩ : ∃ W,W = w.alloc (.cells #[.slice an nn cn,.slice ar nr cr] 34):=⟨_,rfl⟩
 rw [<- hW1] at b0 hbx
 have HB0:=hid b0
 have HX : Hid (∀ W,Below W1.heap.size W1 W -> W.cell? ⟨w.heap.size,0,none⟩ = some (.slice an nn cn)):=fun W hb=>blk_cell ((hb.block w.heap.size (by rw [hW1,size_alloc];omega)).trans hbx) 0
 have c0:=blk_cell hbx 0
 have c1:=blk_cell hbx 1
 rw [hW1] at c0 c1
 have e30 : ((30 : Nat) : Int) = 30:=rfl
 rw [e30] at CF
 obtain ⟨fb,hfb⟩ : ∃ b,b = fewB ns rs 30:=⟨_,rfl⟩
 rw [<- hfb] at CF
 rw [<- hfb]
 unfold GVal at CF
 unfold GVal
 clear G hbx b0 hfb
 have HW1:=hid hW1
 have ed : decide ((0 : Int) < (nn : Int)) = decide (0 < nn):=by
  by_cases h : 0 < nn
  ·rw [decide_eq_true h,decide_eq_true (by omega)]
  ·rw [decide_eq_false h,decide_eq_false (by omega)]
 clear hW1
 cases fb
 ·go_enter Tryz.func16, Tryz.ntmps16
  go_wp2_with (go_at_call 50;refine CF.out.mono ?_;rintro e W2 ⟨rfl,b2⟩;rw [<- HW1.out] at b2;have HB2:=hid (Bt HB0.out b2);clear b2)
  go_ret
  exact ⟨rfl,HB2.out⟩
 ·go_enter Tryz.func16, Tryz.ntmps16
  go_wp2_with (go_at_call 50;refine CF.out.mono ?_;rintro e W2 ⟨rfl,b2⟩;rw [<- HW1.out] at b2;have HB2:=hid (Bt HB0.out b2);have x2:=HX.out W2 b2;clear b2)
  go_ret
  refine ⟨?_,HB2.out⟩
  rw [Bool.true_and,<- ed]
  rfl
theorem laid_len {ns : List Nd} (hs : smallG ns) (hk : ∀ d∈ns,d.kids.length <= 100) (hn : ns.length <= 100) : (laidR ns).1 = [] \/ (laidR ns).1.length = ns.length:=by
 by_cases e : (laidR ns).2.1 = 0
 ·right
  have h:=put_done (N:=20000) (os:=[]) (nm:=[]) (rs:=rangeI ns.length) e hs hk hn (by omega) (by simp)
  rw [laidR,h.words]
  unfold pR
  rw [List.length_map,h.len.2,range_len]
 ·left
  rw [laidR,(put_error (N:=20000) (os:=[]) (nm:=[]) (ns:=ns) (rs:=rangeI ns.length) e).1]
def atW (ws : List Int) (i : Int) : Int:=ws.getD ((i.tmod ws.length + ws.length).tmod ws.length).toNat 0
theorem tmod_rng {i n : Int} (hn : 0 < n) : 0 <= (i.tmod n + n).tmod n /\ (i.tmod n + n).tmod n < n:=by
 have h1:=Int.tmod_lt_of_pos i hn
 have h2 : -n < i.tmod n:=by
  have:=Int.tmod_lt_of_pos (-i) hn
  rw [Int.neg_tmod] at this
  omega
 have h3 : 0 <= i.tmod n + n:=by omega
 exact ⟨Int.tmod_nonneg _ h3,Int.tmod_lt_of_pos _ hn⟩
theorem atW_in {ws : List Int} (h : 0 < ws.length) (i : Int) : atW ws i∈ws:=by
 unfold atW
 have:=tmod_rng (i:=i) (n:=ws.length) (by omega)
 exact getD_mem_w (by omega)
theorem eat_any (ao : Option Addr) (n cap : Nat) (ws : List Int) (i : Int) (hi : Z64 i) (w : World) (R : URow w ao n cap ws) (hn : 0 < n) (hsm : n <= 1000000) : Calls Tryz.prog 19 #[.slice ao n cap,.int .i64 i] w fun e w'=>e = .returned (.int .u64 (atW ws i)) /\ w' = w:=by
 have hf:=R.fits
 have hm:=R.most
 unfold maxLen at hm
 have hl:=R.len
 obtain ⟨b,o,rfl,_,hcc⟩:=R.some hn
 have hr:=tmod_rng (i:=i) (n:=(n : Int)) (by omega)
 have h1:=Int.tmod_lt_of_pos i (show (0 : Int) < (n : Int) by omega)
 have h2 : -(n : Int) < i.tmod n:=by
  have:=Int.tmod_lt_of_pos (-i) (show (0 : Int) < (n : Int) by omega)
  rw [Int.neg_tmod] at this
  omega
 obtain ⟨k,hk⟩ : ∃ k : Nat,(i.tmod n + n).tmod n = (k : Int):=⟨((i.tmod n + n).tmod n).toNat,by omega⟩
 rw [hk] at hr
 have hc:=hcc k (by omega)
 have e : atW ws i = ws.getD k 0:=by unfold atW;rw [hl,hk];rfl
 rw [e]
 obtain ⟨z,hz⟩ : ∃ z,z = ws.getD k 0:=⟨_,rfl⟩
 rw [<- hz] at hc ⊢
 have hn0 : ((n : Int) == 0) = false:=by simp;omega
 unfold Z64 at hi
 have hkn : k < n:=by omega
 clear R hcc hz e hl hr
 go_enter Tryz.func19,Tryz.ntmps19
 go_wp2
 go_ret
 exact ⟨rfl,rfl⟩
def Bel (W0 W : World) : Prop:=Below W0.heap.size W0 W
structure EqC (v : Value) (os : List Ob) (W0 : World) : Prop where
 q : ∀ x y,U64 x -> U64 y -> ∀ W,Bel W0 W -> Calls Tryz.prog 20 #[v,.int .u64 x,.int .u64 y] W fun e w'=>e = .returned (.bool (eqvB os x y)) /\ Bel W0 w'
 a : ∀ x y,U64 x -> U64 y -> ∀ W,Bel W0 W -> Calls Tryz.prog 22 #[v,.int .u64 x,.int .u64 y] W fun e w'=>e = .returned (.bool (alikeB os x y)) /\ Bel W0 w'
theorem EqC.of {B : Nat} {v : Value} {N : Int} {os : List Ob} {F : Nat -> Prop} {W0 : World} (h : HE B v N os F W0) (hT : TabsS W0) (hX : TxOk os) : EqC v os W0 :=
 ⟨fun x y hx hy W hb=>(eeqv_any x y hx hy W (h.on hb) (hT.below hb)).mono (fun e w' ⟨h1,h2⟩=>⟨h1,Bt hb h2⟩),fun x y hx hy W hb=>(eequal_any x y hx hy W (h.on hb) (hT.below hb) hX).mono (fun e w' ⟨h1,h2⟩=>⟨h1,Bt hb h2⟩)⟩
theorem numMag_take {l : List Int} {q : Nat} (h0 : 0 < q) (h : q < l.length) : numMag (l.take (q + 1)) = numMag (l.take q) ++ [(nN (l.getD q 0)).toNat]:=by
 unfold numMag
 rw [List.take_succ_eq_append_getElem h,List.drop_append_of_le_length (by rw [List.length_take];omega),List.map_append,List.getD_eq_getElem?_getD,List.getElem?_eq_getElem h];rfl
theorem numMag_one (l : List Int) : numMag (l.take 1) = []:=by unfold numMag;cases l <;> simp
theorem all_take1 (p : Int -> Bool) {l : List Int} {q : Nat} (h : q < l.length) : (l.take (q + 1)).all p = ((l.take q).all p && p (l.getD q 0)):=by
 rw [List.take_succ_eq_append_getElem h,List.all_append,List.getD_eq_getElem?_getD,List.getElem?_eq_getElem h];simp
theorem all_false1 (p : Int -> Bool) {l : List Int} {q : Nat} (h : q < l.length) (hp : p (l.getD q 0) = false) : l.all p = false:=by
 rw [List.all_eq_false]
 exact ⟨l.getD q 0,by rw [List.getD_eq_getElem?_getD,List.getElem?_eq_getElem h];exact List.getElem_mem _,by rw [hp];decide⟩
theorem ofR_z (x : Int) (hx : U64 x) : Z64 (nK x) /\ Z64 (nN x) /\ Z64 (ofR x).2.2:=by
 unfold nK nN ofR Z64
 unfold U64 at hx
 split
 ·unfold ofRaw
  have hs : -9223372036854775808 <= sgnW x / 8 /\ sgnW x / 8 <= 9223372036854775807:=by unfold sgnW;split <;> omega
  split
  ·simp only;omega
  split
  ·simp only;omega
  split
  ·split
   ·simp only;omega
   split
   ·simp only;omega
   ·simp only;omega
  split
  ·simp only;omega
  ·simp only;omega
 ·simp only;omega
structure NI (w W0 : World) (g2 gx : Nat) (neg : Bool) (v : Value) (lm : List Nat) (wr : World) : Prop where
 res : wr.heap[g2]? = some (.cells #[.bool false,.slice none 0 0] 104 (0,0))
 box : wr.heap[gx]? = some (.cells #[.bool neg,v] 104 (0,0))
 row : wr.ownsRow W0.heap.size 163 1 v lm.length (cs .u32 lm)
 dg : Dg B32 lm
 bel : Below w.heap.size w wr
 s2 : w.heap.size <= g2 /\ g2 < W0.heap.size
 sx : w.heap.size <= gx /\ gx < W0.heap.size
 ne : g2 ≠ gx
 s0 : W0.heap.size <= wr.heap.size
section
variable {w W0 wr w' : World} {g2 gx : Nat} {neg : Bool} {v : Value} {lm : List Nat}
theorem NI.on (h : NI w W0 g2 gx neg v lm wr) (hb : Below wr.heap.size wr w') : NI w W0 g2 gx neg v lm w':=by
 have hs:=h.s0
 exact ⟨(hb.block g2 (by have:=h.s2;omega)).trans h.res,(hb.block gx (by have:=h.sx;omega)).trans h.box,uown_on h.row hb,h.dg,Bt h.bel hb,h.s2,h.sx,h.ne,Nat.le_trans h.s0 hb.size⟩
theorem NI.setNeg (h : NI w W0 g2 gx neg v lm wr) (neg' : Bool) : NI w W0 g2 gx neg' v lm (wr.setCell ⟨gx,0,none⟩ (.bool neg')):=by
 refine ⟨(Below.heap_setCell _ _ _ _ h.ne).trans h.res,?_,own_at h.row (fun b e=>Below.heap_setCell _ _ _ _ (by have:=(h.row.lt b e).1;have:=h.sx;show b ≠ gx;omega)),h.dg,h.bel.setCell (p:=⟨gx,0,none⟩) h.sx.1 _,h.s2,h.sx,h.ne,by simpa [World.setCell] using h.s0⟩
 rw [blk_set (i:=0) h.box];rfl
theorem NI.push {v' : Value} {d n : Nat} (h : NI w W0 g2 gx neg v lm wr) (hd : d < B32) (hn : lm.length = n) (hb : Below W0.heap.size wr w') (ho : w'.ownsRow W0.heap.size 163 1 v' (n + 1) (cs .u32 (lm ++ [d]))) : w'.heap[gx]? = some (.cells #[.bool neg,v] 104 (0,0)) /\ NI w W0 g2 gx neg v' (lm ++ [d]) (w'.setCell ⟨gx,1,none⟩ v'):=by
 have hbx:=(hb.block gx h.sx.2).trans h.box
 refine ⟨hbx,(Below.heap_setCell _ _ _ _ h.ne).trans ((hb.block g2 h.s2.2).trans h.res),?_,?_,h.dg.append (Dg.one hd),?_,h.s2,h.sx,h.ne,?_⟩
 ·rw [blk_set (i:=1) hbx];rfl
 ·rw [List.length_append, hn]
  exact own_at ho (fun b e=>Below.heap_setCell _ _ _ _ (by have:=(ho.lt b e).1;have:=h.sx;show b ≠ gx;omega))
 ·exact (h.bel.trans (hb.mono (by have:=h.s2;omega))).setCell (p:=⟨gx,1,none⟩) h.sx.1 _
 ·have:=hb.size;have:=h.s0;simp [World.setCell];omega
end
def NumPost (l : List Int) (w : World) (e : Ending) (w' : World) : Prop:=∃ neg ao n cap,e = .returned (.tuple #[.agg #[.bool neg,.slice ao n cap],.bool (bigB l)]) /\ (bigB l = true -> neg = numNeg l /\ Row .u32 B32 w' ao n cap (numMag l)) /\ Below w.heap.size w w'
set_option maxHeartbeats 8000000 in
theorem number_any (al : Option Addr) (nl cl : Nat) (l : List Int) (w : World) (hL : URow w al nl cl l) (hsm : nl <= 100000) :
  Calls Tryz.prog 54 #[.slice al nl cl] w (NumPost l w):=by
 have HL:=hid hL
 have hl1:=hL.len
 have hl2:=hL.fits
 have hl3:=hL.most
 unfold maxLen at hl3
 have HLU:=hid hL.bd
 have HBB : Hid (bigB l = (decide (0 < l.length) && (l.all limbB && (decide (nN (l.getD 0 0) <= 1) && (goodB (numNeg l) (numMag l) && !fixB (sgn (numNeg l) (val B32 (numMag l)))))))):=rfl
 obtain ⟨bb,hbb⟩ : ∃ b,b = bigB l:=⟨_,rfl⟩
 have HBE:=hid hbb
 rw [<- hbb] at HBB
 have x0:=blk_new w #[.bool false,.slice none 0 0] 104
 have b0:=Ba w (.cells #[.bool false,.slice none 0 0] 104)
 have x1:=blk_new (w.alloc (.cells #[.bool false,.slice none 0 0] 104)) #[.bool false,.slice none 0 0] 104
 have b1:=Ba (w.alloc (.cells #[.bool false,.slice none 0 0] 104)) (.cells #[.bool false,.slice none 0 0] 104)
 clear hL hbb
 go_enter Tryz.func54,Tryz.ntmps54
 go_wp2_with fail
 obtain ⟨W0,hW0⟩ : ∃ W,W = (w.alloc (.cells #[.bool false,.slice none 0 0] 104)).alloc (.cells #[.bool false,.slice none 0 0] 104):=⟨_,rfl⟩
 have hs0 : W0.heap.size = w.heap.size + 1 + 1:=by rw [hW0,size_alloc,size_alloc]
 rw [size_alloc] at x1
 rw [<- hW0] at x1 b1 ⊢
 have HN0 : Hid (NI w W0 w.heap.size (w.heap.size + 1) false (.slice none 0 0) [] W0):=⟨(b1.block w.heap.size (by rw [size_alloc];omega)).trans x0,x1,World.ownsRow_nil _ _ _ _,Dg.nil _,Bt b0 b1,⟨Nat.le_refl _,by omega⟩,⟨by omega,by omega⟩,by omega,Nat.le_refl _⟩
 obtain ⟨g2,hg2⟩ : ∃ g,g = w.heap.size:=⟨_,rfl⟩
 obtain ⟨gx,hgx⟩ : ∃ g,g = w.heap.size + 1:=⟨_,rfl⟩
 rw [<- hgx,<- hg2] at HN0 ⊢
 have exitF : Hid (∀ wr neg v lm,NI w W0 g2 gx neg v lm wr -> bb = false -> NumPost l w (.returned (.tuple #[.agg #[.bool false,.slice none 0 0],.bool false])) ((wr.setCell ⟨g2,0,none⟩ (.bool false)).setCell ⟨g2,1,none⟩ (.slice none 0 0))):=fun wr neg v lm h e=>by
  unfold NumPost
  rw [<- HBE.out,e]
  exact ⟨_,_,_,_,rfl,fun h=>by simp at h,store2_below h.bel h.s2.1⟩
 clear x0 x1 b0 b1 hs0 hW0 hg2 hgx
 go_loopw [5] (fun i wr=>∃ q : Nat,q <= nl /\ i = .int .i64 q /\ Hid (∃ v,NI w W0 g2 gx (decide (0 < q) && numNeg l) v (numMag (l.take q)) wr /\ (l.take q).all limbB = true /\ (0 < q -> nN (l.getD 0 0) <= 1))) (fun i _=>nl - (intOf i).toNat)
 case atStart=>exact ⟨0,Nat.zero_le _,rfl,_,by simpa [numMag] using HN0.out,rfl,fun h=>by omega⟩
 case round =>
  obtain ⟨q,hq,rfl,hI⟩:=hrel
  obtain ⟨v,hN,hall,hfst⟩:=hI.out
  have HN:=hid hN
  have HALL:=hid hall
  have HFST:=hid hfst
  have hU:=HL.out.on hN.bel
  clear hI hN hall hfst
  by_cases hlt : q < nl
  ·have hql : q < l.length := by omega
   obtain ⟨b,o,rfl,hlb,hcc⟩:=hU.some (by omega)
   have hck:=hcc q hlt
   have hxu : U64 (l.getD q 0):=by rw [List.getD_eq_getElem?_getD,List.getElem?_eq_getElem hql];exact HLU.out _ (List.getElem_mem _)
   obtain ⟨⟨z1,z2⟩,⟨z3,z4⟩,⟨z5,z6⟩⟩:=ofR_z _ hxu
   have CO:=hid (rof_any _ hxu wr)
   have HAT:=hid (all_take1 limbB hql)
   rw [HALL.out,Bool.true_and] at HAT
   have HAF : Hid (limbB (l.getD q 0) = false -> bb = false):=fun h=>by rw [HBB.out,all_false1 limbB hql h];simp
   have HAF0 : Hid (q = 0 -> 1 < nN (l.getD q 0) -> bb = false):=fun h0 h=>by
    subst h0
    rw [HBB.out,decide_eq_false (show ¬ nN (l.getD 0 0) <= 1 by omega)];simp
   have HNG : Hid (q = 0 -> numNeg l = decide (nN (l.getD q 0) = 1)):=fun h0=>by subst h0;rfl
   have HF0 : Hid (q = 0 -> nN (l.getD q 0) <= 1 -> nN (l.getD 0 0) <= 1):=fun h0 h=>by subst h0;exact h
   have HMT : Hid (0 < q -> numMag (l.take (q + 1)) = numMag (l.take q) ++ [(nN (l.getD q 0)).toNat]):=fun h0=>numMag_take h0 hql
   have HLB : Hid (limbB (l.getD q 0) = (decide (nK (l.getD q 0) = 1) && (decide (0 <= nN (l.getD q 0)) && decide (nN (l.getD q 0) < 4294967296)))):=rfl
   unfold SVal at CO
   change Hid (Calls Tryz.prog 97 #[.int .u64 (l.getD q 0)] wr fun e w'=>e = .returned (.agg #[.int .i64 (nK (l.getD q 0)),.int .i64 (nN (l.getD q 0)),.int .i64 (ofR (l.getD q 0)).2.2]) /\ Below wr.heap.size wr w') at CO
   obtain ⟨tt,htt⟩ : ∃ t,t = (ofR (l.getD q 0)).2.2:=⟨_,rfl⟩
   rw [<- htt] at CO z5 z6
   obtain ⟨k,hk⟩ : ∃ k,k = nK (l.getD q 0):=⟨_,rfl⟩
   obtain ⟨m,hm⟩ : ∃ k,k = nN (l.getD q 0):=⟨_,rfl⟩
   obtain ⟨lb,hlb2⟩ : ∃ k,k = limbB (l.getD q 0):=⟨_,rfl⟩
   rw [<- hk] at CO z1 z2 HLB
   rw [<- hm] at CO z3 z4 HAF0 HNG HF0 HMT HLB
   rw [<- hlb2] at HAT HAF HLB
   obtain ⟨x,hx⟩ : ∃ x,x = l.getD q 0:=⟨_,rfl⟩
   rw [<- hx] at CO hck hxu
   clear hcc hU hk hm hlb2 hx htt
   have HOF : Hid (∀ W6,Below wr.heap.size wr W6 -> NI w W0 g2 gx (decide (0 < q) && numNeg l) v (numMag (l.take q)) (W6.alloc (.cells #[.int .i64 k,.int .i64 m,.int .i64 tt] 161)) /\ (W6.alloc (.cells #[.int .i64 k,.int .i64 m,.int .i64 tt] 161)).cell? ⟨W6.heap.size,0,none⟩ = some (.int .i64 k) /\ (W6.alloc (.cells #[.int .i64 k,.int .i64 m,.int .i64 tt] 161)).cell? ⟨W6.heap.size,1,none⟩ = some (.int .i64 m)):=fun W6 b6=>by
    have hb:=blk_new W6 #[.int .i64 k,.int .i64 m,.int .i64 tt] 161
    exact ⟨(HN.out.on b6).on (Ba W6 _),blk_cell hb 0,blk_cell hb 1⟩
   have HRES : Hid (∀ wr neg v lm,NI w W0 g2 gx neg v lm wr -> wr.cell? ⟨g2,0,none⟩ = some (.bool false) /\ wr.cell? ⟨g2,1,none⟩ = some (.slice none 0 0) /\ wr.frozen? ⟨g2,0,none⟩ = false /\ wr.frozen? ⟨g2,1,none⟩ = false):=fun wr neg v lm h=>⟨blk_cell h.res 0,blk_cell h.res 1,blk_free h.res 0,blk_free h.res 1⟩
   by_cases k1 : ¬ k = 1
   ·have e1 : (k != 1) = true := by simpa using k1
    have hbf : Hid (bb = false):=HAF.out (by rw [HLB.out,decide_eq_false k1];rfl)
    go_wp2_with (go_at_call 97;(with_reducible refine CO.out.mono ?_);rintro e W6 ⟨rfl,b6⟩;obtain ⟨hN6,o0,o1⟩:=HOF.out W6 b6;have HN6:=hid hN6;obtain ⟨r0,r1,r2,r3⟩:=HRES.out _ _ _ _ hN6;clear hN6 b6)
    have hst:=store2 (v1:=.bool false) (v2:=.slice none 0 0) HN6.out.res
    have t0:=blk_cell hst 0
    have t1:=blk_cell hst 1
    refine bodyPost_ret (v:=.tuple #[.agg #[.bool false,.slice none 0 0],.bool false]) ?_ rfl ?_
    ·simp [results,Tryz.results54,go_sem,t0,t1]
    ·exact exitF.out _ _ _ _ HN6.out hbf.out
   have k1 : k = 1:=Classical.not_not.1 k1
   subst k1
   have e1 : ((1 : Int) != 1) = false:=by decide
   by_cases k2 : m < 0
   ·have e2 : decide (m < 0) = true := decide_eq_true k2
    have hbf : Hid (bb = false):=HAF.out (by rw [HLB.out,decide_eq_false (show ¬ 0 <= m by omega)];simp)
    go_wp2_with (go_at_call 97;(with_reducible refine CO.out.mono ?_);rintro e W6 ⟨rfl,b6⟩;obtain ⟨hN6,o0,o1⟩:=HOF.out W6 b6;have HN6:=hid hN6;obtain ⟨r0,r1,r2,r3⟩:=HRES.out _ _ _ _ hN6;clear hN6 b6)
    have hst:=store2 (v1:=.bool false) (v2:=.slice none 0 0) HN6.out.res
    have t0:=blk_cell hst 0
    have t1:=blk_cell hst 1
    refine bodyPost_ret (v:=.tuple #[.agg #[.bool false,.slice none 0 0],.bool false]) ?_ rfl ?_
    ·simp [results,Tryz.results54,go_sem,t0,t1]
    ·exact exitF.out _ _ _ _ HN6.out hbf.out
   have e2 : decide (m < 0) = false:=decide_eq_false k2
   by_cases k3 : 4294967296 <= m
   ·have e3 : decide (4294967296 <= m) = true := decide_eq_true k3
    have hbf : Hid (bb = false):=HAF.out (by rw [HLB.out,decide_eq_false (show ¬ m < 4294967296 by omega)];simp)
    go_wp2_with (go_at_call 97;(with_reducible refine CO.out.mono ?_);rintro e W6 ⟨rfl,b6⟩;obtain ⟨hN6,o0,o1⟩:=HOF.out W6 b6;have HN6:=hid hN6;obtain ⟨r0,r1,r2,r3⟩:=HRES.out _ _ _ _ hN6;clear hN6 b6)
    have hst:=store2 (v1:=.bool false) (v2:=.slice none 0 0) HN6.out.res
    have t0:=blk_cell hst 0
    have t1:=blk_cell hst 1
    refine bodyPost_ret (v:=.tuple #[.agg #[.bool false,.slice none 0 0],.bool false]) ?_ rfl ?_
    ·simp [results,Tryz.results54,go_sem,t0,t1]
    ·exact exitF.out _ _ _ _ HN6.out hbf.out
   have e3 : decide (4294967296 <= m) = false:=decide_eq_false k3
   have HLT : Hid ((l.take (q + 1)).all limbB = true):=by
    unfold Hid;rw [HAT.out,HLB.out,decide_eq_true (show 0 <= m by omega),decide_eq_true (show m < 4294967296 by omega)];rfl
   by_cases q0 : q = 0
   ·subst q0
    rw [Nat.add_zero] at hck
    by_cases k4 : 1 < m
    ·have e4 : decide (1 < m) = true := decide_eq_true k4
     have hbf : Hid (bb = false):=HAF0.out rfl k4
     go_wp2_with (go_at_call 97;(with_reducible refine CO.out.mono ?_);rintro e W6 ⟨rfl,b6⟩;obtain ⟨hN6,o0,o1⟩:=HOF.out W6 b6;have HN6:=hid hN6;obtain ⟨r0,r1,r2,r3⟩:=HRES.out _ _ _ _ hN6;clear hN6 b6)
     have hst:=store2 (v1:=.bool false) (v2:=.slice none 0 0) HN6.out.res
     have t0:=blk_cell hst 0
     have t1:=blk_cell hst 1
     refine bodyPost_ret (v:=.tuple #[.agg #[.bool false,.slice none 0 0],.bool false]) ?_ rfl ?_
     ·simp [results,Tryz.results54,go_sem,t0,t1]
     ·exact exitF.out _ _ _ _ HN6.out hbf.out
    have e4 : decide (1 < m) = false:=decide_eq_false k4
    go_wp2_with (go_at_call 97;(with_reducible refine CO.out.mono ?_);rintro e W6 ⟨rfl,b6⟩;obtain ⟨hN6,o0,o1⟩:=HOF.out W6 b6;have HN6:=hid hN6;have y0 : (W6.alloc (.cells #[.int .i64 1,.int .i64 m,.int .i64 tt] 161)).cell? ⟨gx,0,none⟩ = some (.bool (decide (0 < 0) && numNeg l)):=blk_cell hN6.box 0;have y1:=blk_free hN6.box 0;clear hN6 b6)
    have HEQ : Hid ((m == 1) = (decide (0 < 0 + 1) && numNeg l)):=by
     unfold Hid;rw [HNG.out (by simp)];by_cases h : m = 1 <;> simp [h]
    have H7:=hid (HN6.out.setNeg (m == 1))
    refine ⟨⟨1,by omega,by go_num,v,?_,HLT.out,fun _=>HF0.out (by simp) (by omega)⟩,by simp [intOf] <;> omega⟩
    have h7:=H7.out
    rw [HEQ.out] at h7
    have e8 : numMag (l.take 0) = numMag (l.take (0 + 1)):=by rw [Nat.zero_add,numMag_one];rfl
    rw [e8] at h7
    rw [<- HEQ.out] at h7 ⊢
    exact h7
   ·have e5 : ((q : Int) == 0) = false := by simp; omega
    obtain ⟨mn,hmn⟩ : ∃ n : Nat,m = (n : Int):=⟨m.toNat,by omega⟩
    subst hmn
    have hmb : mn < B32:=by show mn < 4294967296;omega
    have hmb2 : mn < 4294967296:=hmb
    have HMB:=hid hmb
    have HM:=hid (HMT.out (by omega))
    rw [Int.toNat_natCast] at HM
    have hln : (numMag (l.take q)).length <= 1000000:=by unfold numMag;rw [List.length_map,List.length_drop,List.length_take];omega
    obtain ⟨lm,hlm⟩ : ∃ x,x = numMag (l.take q):=⟨_,rfl⟩
    rw [<- hlm] at HM hln HOF
    have HFQ : Hid (decide (0 < q) = decide (0 < q + 1)):=by unfold Hid;rw [decide_eq_true (show 0 < q by omega),decide_eq_true (show 0 < q + 1 by omega)]
    obtain ⟨ng,hng⟩ : ∃ x,x = (decide (0 < q) && numNeg l):=⟨_,rfl⟩
    rw [<- hng] at HOF
    have HNGQ:=hid hng
    have HQ1:=hid (HFST.out (by omega))
    obtain ⟨lmn,hlmn⟩ : ∃ n,n = lm.length:=⟨_,rfl⟩
    have HLMN:=hid hlmn
    have hln2 : lmn <= 1000000:=by omega
    clear hlm hmb hng hlmn hln
    go_wp2_with (first
     | (go_at_call 97;(with_reducible refine CO.out.mono ?_);rintro e W6 ⟨rfl,b6⟩;obtain ⟨hN6,o0,o1⟩:=HOF.out W6 b6;have y1 : (W6.alloc (.cells #[.int .i64 1,.int .i64 mn,.int .i64 tt] 161)).cell? ⟨gx,1,none⟩ = some v:=blk_cell hN6.box 1;have HN6:=hid hN6;have HN7:=hid (hN6.on (Ba _ (.cells #[.int .u32 (mn : Nat)] 163)));have HR7:=hid HN7.out.row;rw [<- HLMN.out] at HR7;have hx7:=cell_new (W6.alloc (.cells #[.int .i64 1,.int .i64 mn,.int .i64 tt] 161)) (.int .u32 (mn : Nat)) 163;rw [size_alloc] at hx7;have HX7:=hid hx7;clear hx7;have HS7:=hid HN7.out.s0;clear hN6 b6)
     | (at_builtin;refine app1 rfl _ _ 102 rfl W0.heap.size 163 .u32 4 (by decide) Tryz.underlying102 info_u32 _ lmn lm rfl HR7.out ⟨W6.heap.size + 1,0,none⟩ 1 mn rfl HX7.out (by omega) HS7.out ?_;intro g8 cap8 w8 ho8 hb8;obtain ⟨bx,h9⟩:=HN7.out.push HMB.out HLMN.out.symm hb8 ho8;have d1 : w8.cell? ⟨gx,1,none⟩ = some v:=blk_cell bx 1;have f1:=blk_free bx 1;have H9:=hid h9;clear bx h9 ho8 hb8 y1))
    refine ⟨⟨q + 1,by omega,by go_num,.slice (some ⟨g8,0,none⟩) (lmn + 1) cap8,?_,HLT.out,fun _=>HQ1.out⟩,by simp [intOf] <;> omega⟩
    rw [HM.out,<- HFQ.out,<- HNGQ.out]
    exact H9.out
  ·obtain rfl : q = nl := by omega
   rw [List.take_of_length_le (by omega)] at HN HALL
   clear hU
   have HRES : Hid (∀ wr neg v lm,NI w W0 g2 gx neg v lm wr -> wr.cell? ⟨g2,0,none⟩ = some (.bool false) /\ wr.cell? ⟨g2,1,none⟩ = some (.slice none 0 0) /\ wr.frozen? ⟨g2,0,none⟩ = false /\ wr.frozen? ⟨g2,1,none⟩ = false /\ wr.cell? ⟨gx,0,none⟩ = some (.bool neg) /\ wr.cell? ⟨gx,1,none⟩ = some v):=fun wr neg v lm h=>⟨blk_cell h.res 0,blk_cell h.res 1,blk_free h.res 0,blk_free h.res 1,blk_cell h.box 0,blk_cell h.box 1⟩
   by_cases q0 : q = 0
   ·have hbf : Hid (bb = false) := by unfold Hid; rw [HBB.out, decide_eq_false (show ¬ 0 < l.length by omega)]; rfl
    have e0 : ((q : Int) == 0) = true:=by simp [q0]
    obtain ⟨r0,r1,r2,r3,r4,r5⟩:=HRES.out _ _ _ _ HN.out
    clear q0
    go_wp2_with fail
    have hst:=store2 (v1:=.bool false) (v2:=.slice none 0 0) HN.out.res
    have t0:=blk_cell hst 0
    have t1:=blk_cell hst 1
    refine bodyPost_ret (v:=.tuple #[.agg #[.bool false,.slice none 0 0],.bool false]) ?_ rfl ?_
    ·simp [results,Tryz.results54,go_sem,t0,t1]
    ·exact exitF.out _ _ _ _ HN.out hbf.out
   ·have e0 : ((q : Int) == 0) = false := by simp; omega
    rw [decide_eq_true (show 0 < q by omega),Bool.true_and] at HN
    have HB2 : Hid (bb = (goodB (numNeg l) (numMag l) && !fixB (sgn (numNeg l) (val B32 (numMag l))))):=by
     have h1:=HFST.out (by omega)
     unfold Hid;rw [HBB.out,HALL.out,decide_eq_true (show 0 < l.length by omega),decide_eq_true h1];rfl
    obtain ⟨ao,cap,hv,hO⟩:=own_of HN.out.row HN.out.dg
    subst hv
    have HRW : Hid (∀ W,Below wr.heap.size wr W -> Row .u32 B32 W ao (numMag l).length cap (numMag l)):=fun W b=>hO.row.below b
    have hr1:=hO.row.fits
    have hr2:=hO.row.most
    unfold maxLen at hr2
    have CG:=hid (rgood_any (numNeg l) ao (numMag l).length cap (numMag l) wr hO.row)
    have CF : Hid (∀ W,Below wr.heap.size wr W -> goodB (numNeg l) (numMag l) = true -> Calls Tryz.prog 99 #[.agg #[.bool (numNeg l),.slice ao (numMag l).length cap]] W fun e w'=>FixPost (sgn (numNeg l) (val B32 (numMag l))) W e w'):=fun W b hg=>fixed_any _ ao _ cap _ W (HRW.out W b) hg
    obtain ⟨r0,r1,r2,r3,r4,r5⟩:=HRES.out _ _ _ _ HN.out
    unfold FixPost at CF
    obtain ⟨gb,hgb⟩ : ∃ x,x = goodB (numNeg l) (numMag l):=⟨_,rfl⟩
    obtain ⟨fb,hfb⟩ : ∃ x,x = fixB (sgn (numNeg l) (val B32 (numMag l))):=⟨_,rfl⟩
    rw [<- hgb] at CG CF HB2
    rw [<- hfb] at CF HB2
    have HNE : Hid (∃ ng,ng = numNeg l):=⟨_,rfl⟩
    obtain ⟨ng,hng⟩:=HNE.out
    obtain ⟨ll,hll⟩ : ∃ x,x = (numMag l).length:=⟨_,rfl⟩
    rw [<- hng] at CG CF r4 HN
    rw [<- hll] at CG CF r5 hr1 HN HRW
    have HNG2:=hid hng
    clear q0 hO hgb hfb hng hll HNE
    cases gb
    ·have hbf : Hid (bb = false) := HB2.out
     go_wp2_with (go_at_call 98;(with_reducible refine CG.out.mono ?_);rintro e W6 ⟨rfl,b6⟩;have HN6:=hid (HN.out.on b6);clear r0 r1 r2 r3 r4 r5;obtain ⟨r0,r1,r2,r3,r4,r5⟩:=HRES.out _ _ _ _ HN6.out;clear b6)
     have hst:=store2 (v1:=.bool false) (v2:=.slice none 0 0) HN6.out.res
     have t0:=blk_cell hst 0
     have t1:=blk_cell hst 1
     refine bodyPost_ret (v:=.tuple #[.agg #[.bool false,.slice none 0 0],.bool false]) ?_ rfl ?_
     ·simp [results,Tryz.results54,go_sem,t0,t1]
     ·exact exitF.out _ _ _ _ HN6.out hbf.out
    ·have HB3 : Hid (bb = !fb) := HB2.out.trans (by simp)
     go_wp2_with (first
      | (go_at_call 98;(with_reducible refine CG.out.mono ?_);rintro e W6 ⟨rfl,b6⟩;have HN6:=hid (HN.out.on b6);have HB6:=hid b6;have C6:=hid (CF.out W6 b6 rfl);clear r0 r1 r2 r3 r4 r5;obtain ⟨r0,r1,r2,r3,r4,r5⟩:=HRES.out _ _ _ _ HN6.out;clear b6)
      | (go_at_call 99;(with_reducible refine C6.out.mono ?_);rintro e W7 ⟨v7,rfl,_,b7⟩;have HN7:=hid (HN6.out.on b7);have HB7:=hid (Bt HB6.out b7);clear r0 r1 r2 r3 r4 r5;obtain ⟨r0,r1,r2,r3,r4,r5⟩:=HRES.out _ _ _ _ HN7.out;clear b7))
     have hst:=store2 (v1:=.bool ng) (v2:=.slice ao ll cap) HN7.out.res
     have t0:=blk_cell hst 0
     have t1:=blk_cell hst 1
     refine bodyPost_ret (v:=.tuple #[.agg #[.bool ng,.slice ao ll cap],.bool (!fb)]) ?_ rfl ?_
     ·simp [results,Tryz.results54,go_sem,t0,t1]
     ·unfold NumPost
      rw [<- HBE.out,HB3.out]
      refine ⟨ng,ao,ll,cap,rfl,fun _=>⟨HNG2.out,?_⟩,store2_below HN7.out.bel HN7.out.s2.1⟩
      have hrow:=own_at (w':=(W7.setCell ⟨g2,0,none⟩ (.bool ng)).setCell ⟨g2,1,none⟩ (.slice ao ll cap)) HN7.out.row (fun b e=>store2_far (by have:=(HN7.out.row.lt b e).1;have:=HN7.out.s2;omega))
      obtain ⟨ao',cap',hv',hO'⟩:=own_of hrow HN7.out.dg
      have hlen:=HRW.out W7 HB7.out
      rw [hlen.len] at hv' hO'
      cases hv'
      exact hO'.row
end Go.Proofs.YticimejfjjmikaaGreatDoor
