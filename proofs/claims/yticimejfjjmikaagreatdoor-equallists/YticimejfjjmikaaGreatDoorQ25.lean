import Derived.Test.YticimejfjjmikaaGreatDoorQ14
import Derived.Test.YticimejfjjmikaaGreatDoorSL20
import Derived.Test.YticimejfjjmikaaGreatDoorQ10
import Derived.Test.YticimejfjjmikaaGreatDoorSL23
import Derived.Test.YticimejfjjmikaaGreatDoorC4
set_option linter.unusedVariables false
set_option linter.unusedSimpArgs false
set_option maxRecDepth 100000
namespace Go.Proofs.YticimejfjjmikaaGreatDoor
open Go.RowKit
def gE : List Nd:=[⟨7,0,ByteArray.empty,[3,0]⟩,⟨7,0,ByteArray.empty,[3,2]⟩,⟨7,0,ByteArray.empty,[3,1]⟩,⟨3,0,⟨#[49]⟩,[]⟩]
def oE : List Ob:=[⟨1,[8,1]⟩,⟨1,[8,49]⟩,⟨1,[8,25]⟩]
theorem laidE : laidR gE = ([1,25,49,8],0,oE,[]):=by kernel_rfl
theorem all4 {α : Type} {p : α -> Prop} {a b c d : α} (h1 : p a) (h2 : p b) (h3 : p c) (h4 : p d) : ∀ x∈[a,b,c,d],p x:=fun x hx=>by
 simp only [List.mem_cons,List.not_mem_nil,or_false] at hx
 rcases hx with rfl | rfl | rfl | rfl
 ·exact h1
 ·exact h2
 ·exact h3
 ·exact h4
theorem smallE : smallG gE:=all4 (by decide) (by decide) (by decide) (by decide)
theorem kidsE : ∀ d∈gE,d.kids.length <= 100:=all4 (by decide) (by decide) (by decide) (by decide)
theorem e1v : eqvB oE 1 25 = false:=by kernel_rfl
theorem e2v : eqvB oE 8 8 = true:=by kernel_rfl
theorem hE1 : hpO oE 1 = some (1,[8,1]):=by kernel_rfl
theorem hE25 : hpO oE 25 = some (1,[8,49]):=by kernel_rfl
theorem hE49 : hpO oE 49 = some (1,[8,25]):=by kernel_rfl
theorem hE8 : hpO oE 8 = none:=by kernel_rfl
theorem e1a : alikeB oE 1 25 = true:=by
 refine (alikeB_iff _ _ _).2 ⟨fun x y=>x = y \/ x = 1 /\ (y = 25 \/ y = 49),fun x y h=>?_,.inr ⟨rfl,.inl rfl⟩⟩
 rcases h with h | ⟨rfl,rfl | rfl⟩
 ·exact .inl (.inl h)
 ·refine .inr ⟨1, [8, 1], [8, 49], hE1, hE25, by omega, rfl, fun j hj => ?_⟩
  have : j = 0 \/ j = 1:=by simp at hj;omega
  rcases this with rfl | rfl
  ·exact .inl rfl
  ·exact .inr ⟨rfl,.inr rfl⟩
 ·refine .inr ⟨1, [8, 1], [8, 25], hE1, hE49, by omega, rfl, fun j hj => ?_⟩
  have : j = 0 \/ j = 1:=by simp at hj;omega
  rcases this with rfl | rfl
  ·exact .inl rfl
  ·exact .inr ⟨rfl,.inl rfl⟩
theorem e2a : alikeB oE 1 8 = false:=by
 refine alikeB_no (fun h=>?_)
 rcases alike_bis 1 8 h with (h | ⟨f,_,h2,_⟩) | ⟨k,f,g,_,h2,_⟩
 ·omega
 ·rw [hE8] at h2;cases h2
 ·rw [hE8] at h2;cases h2
def litE (g : Nat) : List Obj:=[.cells #[.int .i64 3,.int .i64 0] 3,.cells #[.int .i64 3,.int .i64 2] 3,.cells #[.int .i64 3,.int .i64 1] 3,
 .cells #[.int .i64 7,.int .i64 0,.string ⟨#[]⟩,.slice (some ⟨g,0,none⟩) 2 2,.int .i64 7,.int .i64 0,.string ⟨#[]⟩,.slice (some ⟨g + 1,0,none⟩) 2 2,.int .i64 7,.int .i64 0,.string ⟨#[]⟩,.slice (some ⟨g + 1 + 1,0,none⟩) 2 2,.int .i64 3,.int .i64 0,.string ⟨#[49]⟩,.slice none 0 0] 54,
 .cells #[.slice (some ⟨g + 1 + 1 + 1,0,none⟩) 4 4,.slice none 0 0] 34]
theorem nd7 (l : List Int) : NdOk ⟨7,0,ByteArray.empty,l⟩:=by
 unfold NdOk I64 maxLen
 exact ⟨⟨by show (-9223372036854775808 : Int) <= 7;decide,by show (7 : Int) <= 9223372036854775807;decide⟩,⟨by show (-9223372036854775808 : Int) <= 0;decide,by show (0 : Int) <= 9223372036854775807;decide⟩,by show ByteArray.empty.size <= 2 ^ 63 - 1;decide⟩
theorem litE_ok (w : World) : GIs (allocs w (litE w.heap.size)) (some ⟨w.heap.size + 1 + 1 + 1,0,none⟩) 4 4 none 0 0 gE []:=by
 have h0:=allocs_get (w:=w) (os:=litE w.heap.size) (i:=0) rfl
 have h1:=allocs_get (w:=w) (os:=litE w.heap.size) (i:=1) rfl
 have h2:=allocs_get (w:=w) (os:=litE w.heap.size) (i:=2) rfl
 have h3:=allocs_get (w:=w) (os:=litE w.heap.size) (i:=3) rfl
 have b : ∀ l : List Int,(∀ z∈l,0 <= z /\ z < 4) -> ∀ z∈l,I64 z:=fun l h z hz=>by have:=h z hz;unfold I64;omega
 have k0:=lit_ints (l:=[3,0]) (n:=2) h0 rfl rfl (by omega) (b _ (by simp))
 have k1:=lit_ints (l:=[3,2]) (n:=2) h1 rfl rfl (by omega) (b _ (by simp))
 have k2:=lit_ints (l:=[3,1]) (n:=2) h2 rfl rfl (by omega) (b _ (by simp))
 refine ⟨lit_nrow (l:=[(⟨7,0,ByteArray.empty,[3,0]⟩,some ⟨w.heap.size,0,none⟩,2,2),(⟨7,0,ByteArray.empty,[3,2]⟩,some ⟨w.heap.size + 1,0,none⟩,2,2),(⟨7,0,ByteArray.empty,[3,1]⟩,some ⟨w.heap.size + 1 + 1,0,none⟩,2,2),(⟨3,0,⟨#[49]⟩,[]⟩,none,0,0)]) h3 rfl rfl (by omega) (all4 k0 k1 k2 (IRow.nil _ none)) (all4 (nd7 _) (nd7 _) (nd7 _) (by unfold NdOk I64 maxLen;decide)),IRow.nil _ none⟩
theorem gq4_on {W wx wy : World} {p o : Nat} {a0 a1 a3 : Value} (h : wx.cell? ⟨p,o,none⟩ = some a0 /\ wx.cell? ⟨p,o + 1,none⟩ = some a1 /\ wx.cell? ⟨p,o + 3,none⟩ = some a3 /\ Below W.heap.size W wx) (hb : Below wx.heap.size wx wy) : wy.cell? ⟨p,o,none⟩ = some a0 /\ wy.cell? ⟨p,o + 1,none⟩ = some a1 /\ wy.cell? ⟨p,o + 3,none⟩ = some a3 /\ Below W.heap.size W wy :=
 ⟨(hb.cell (p:=⟨p,o,none⟩) (cell_lt h.1)).trans h.1,(hb.cell (p:=⟨p,o + 1,none⟩) (cell_lt h.2.1)).trans h.2.1,(hb.cell (p:=⟨p,o + 3,none⟩) (cell_lt h.2.2.1)).trans h.2.2.1,Bt h.2.2.2 hb⟩
theorem gq4_bel {W wx : World} {p o : Nat} {a0 a1 a3 : Value} (h : wx.cell? ⟨p,o,none⟩ = some a0 /\ wx.cell? ⟨p,o + 1,none⟩ = some a1 /\ wx.cell? ⟨p,o + 3,none⟩ = some a3 /\ Below W.heap.size W wx) : Below W.heap.size W wx:=h.2.2.2
set_option maxHeartbeats 16000000 in
theorem eawake_any (w : World) (hT : TabsS w) : Calls Tryz.prog 18 #[] w fun e w'=>e = .returned (.bool true) /\ Below w.heap.size w w':=by
 have hlit:=litE_ok w
 have hb0:=allocs_below (litE w.heap.size) w
 have CL:=hid (laid_any (some ⟨w.heap.size + 1 + 1 + 1,0,none⟩) none 4 4 0 0 gE [] _ hlit smallE kidsE (by omega) (hT.below hb0))
 have HTW : Hid (∀ W,Below w.heap.size w W -> TabsS W):=fun W hb=>hT.below hb
 have HB0:=hid hb0
 have hbox:=allocs_get (w:=w) (os:=litE w.heap.size) (i:=4) rfl
 have hxx : TxOk oE:=by
  have:=laid_text smallE kidsE (by decide)
  rw [laidE] at this
  exact this
 have HXX:=hid hxx
 unfold GVal LaidP at CL
 simp only [laidE,List.length_cons,List.length_nil] at CL
 unfold litE allocs allocs allocs allocs allocs allocs at CL HB0 hbox
 have c0:=blk_cell hbox 0
 have c1:=blk_cell hbox 1
 clear hlit hb0 hxx hbox hT
 go_enter Tryz.func18,Tryz.ntmps18
 go_wp2_with (go_at_call 17;refine CL.out.mono ?_;rintro e W2 ⟨v,g,ao,cap,F,vL,ls,B',rfl,u2,h2,r2,_,_,_,b2⟩;have HU2:=hid u2;have HH2:=hid h2;have HB2:=hid (Bt HB0.out b2);clear u2 h2 r2 b2)
 obtain ⟨bb,oo,rfl,_,hcc⟩:=HU2.out.some (by omega)
 have x0:=hcc 0 (by omega)
 have x1:=hcc 1 (by omega)
 have x3:=hcc 3 (by omega)
 simp only [Nat.add_zero,List.getD_cons_zero,List.getD_cons_succ] at x0 x1 x3
 have hf:=HU2.out.fits
 have hm:=HU2.out.most
 unfold maxLen at hm
 obtain ⟨gh,rfl⟩:=HH2.out.ph.ptr
 have u0 : ∀ z : Int,z = 1 \/ z = 25 \/ z = 8 -> U64 z:=fun z h=>by unfold U64;omega
 have C1 : Hid (∀ wx,Below W2.heap.size W2 wx -> Calls Tryz.prog 20 #[.pointer (some ⟨gh,0,none⟩),.int .u64 1,.int .u64 25] wx fun e w'=>e = .returned (.bool false) /\ Below wx.heap.size wx w'):=fun wx hb=>by
  have:=eeqv_any 1 25 (u0 _ (by omega)) (u0 _ (by omega)) wx (HH2.out.on hb) (HTW.out wx (Bt HB2.out hb))
  rw [e1v] at this;exact this
 have C2 : Hid (∀ wx,Below W2.heap.size W2 wx -> Calls Tryz.prog 22 #[.pointer (some ⟨gh,0,none⟩),.int .u64 1,.int .u64 25] wx fun e w'=>e = .returned (.bool true) /\ Below wx.heap.size wx w'):=fun wx hb=>by
  have:=eequal_any 1 25 (u0 _ (by omega)) (u0 _ (by omega)) wx (HH2.out.on hb) (HTW.out wx (Bt HB2.out hb)) HXX.out
  rw [e1a] at this;exact this
 have C3 : Hid (∀ wx,Below W2.heap.size W2 wx -> Calls Tryz.prog 20 #[.pointer (some ⟨gh,0,none⟩),.int .u64 8,.int .u64 8] wx fun e w'=>e = .returned (.bool true) /\ Below wx.heap.size wx w'):=fun wx hb=>by
  have:=eeqv_any 8 8 (u0 _ (by omega)) (u0 _ (by omega)) wx (HH2.out.on hb) (HTW.out wx (Bt HB2.out hb))
  rw [e2v] at this;exact this
 have C4 : Hid (∀ wx,Below W2.heap.size W2 wx -> Calls Tryz.prog 22 #[.pointer (some ⟨gh,0,none⟩),.int .u64 1,.int .u64 8] wx fun e w'=>e = .returned (.bool false) /\ Below wx.heap.size wx w'):=fun wx hb=>by
  have:=eequal_any 1 8 (u0 _ (by omega)) (u0 _ (by omega)) wx (HH2.out.on hb) (HTW.out wx (Bt HB2.out hb)) HXX.out
  rw [e2a] at this;exact this
 have HS0 : Hid (W2.cell? ⟨bb,oo,none⟩ = some (.int .u64 1) /\ W2.cell? ⟨bb,oo + 1,none⟩ = some (.int .u64 25) /\ W2.cell? ⟨bb,oo + 3,none⟩ = some (.int .u64 8) /\ Below W2.heap.size W2 W2):=⟨x0,x1,x3,Below.refl _ _⟩
 clear hcc u0 c0 c1 CL
 go_region_held3 (fun wx=>wx.cell? ⟨bb,oo,none⟩ = some (.int .u64 1) /\ wx.cell? ⟨bb,oo + 1,none⟩ = some (.int .u64 25) /\ wx.cell? ⟨bb,oo + 3,none⟩ = some (.int .u64 8) /\ Below W2.heap.size W2 wx)
  (first | exact gq4_on HS0.out (Bd W2 1) | exact gq4_on (by assumption) (by assumption))
  (first
   | (go_at_call 20;with_reducible refine (C1.out _ ?_).mono ?_;(exact gq4_bel (by assumption));rintro e wa ⟨rfl,ba⟩)
   | (go_at_call 22;with_reducible refine (C2.out _ ?_).mono ?_;(exact gq4_bel (by assumption));rintro e wb ⟨rfl,bb'⟩)
   | (go_at_call 20;with_reducible refine (C3.out _ ?_).mono ?_;(exact gq4_bel (by assumption));rintro e wc ⟨rfl,bc⟩)
   | (go_at_call 22;with_reducible refine (C4.out _ ?_).mono ?_;(exact gq4_bel (by assumption));rintro e wd ⟨rfl,bd⟩))
 have HBE : Hid (Below W2.heap.size W2 wd):=gq4_bel (p:=bb) (o:=oo) (a0:=.int .u64 1) (a1:=.int .u64 25) (a3:=.int .u64 8) (by assumption)
 rename_i hHeld
 clear hHeld
 go_wp2
 go_ret
 exact ⟨rfl,Bt HB2.out HBE.out⟩
theorem digs_fuel {f v : Nat} (h : v <= f) : digs f v = digs v v:=by
 obtain ⟨a1,a2,a3,_⟩:=digs_ok f v h
 obtain ⟨b1,b2,b3,_⟩:=digs_ok v v (Nat.le_refl _)
 exact digits_unique (B:=10) (by omega) a1 b1 a2 b2 (by rw [a3,b3])
theorem digs_step {v : Nat} (h : v ≠ 0) : digs v v = (v % 10) :: digs (v / 10) (v / 10):=by
 obtain ⟨f,rfl⟩ : ∃ f,v = f + 1:=⟨v - 1,by omega⟩
 rw [digs,if_neg h,digs_fuel (by omega)]
theorem print_one {v : Nat} (h : v < 10) : printL false v = [48 + v]:=by
 unfold printL
 by_cases e : v = 0
 ·subst e;rfl
 ·have h0 : v / 10 = 0 := by omega
  rw [digs_step e,h0,if_neg (by simp),show digs 0 0 = [] from rfl]
  have : v % 10 = v:=by omega
  rw [this]
  simp [chr,h]
theorem print_step {v : Nat} (h : 10 <= v) : printL false v = printL false (v / 10) ++ printL false (v % 10):=by
 have hm : v % 10 < 10:=by omega
 rw [print_one hm]
 unfold printL
 rw [digs_step (by omega),if_neg (by simp)]
 have hne : digs (v / 10) (v / 10) ≠ []:=fun e=>by have:=digs_nil e;omega
 rw [if_neg hne]
 simp [chr,hm]
theorem print_neg {v : Nat} (h : v ≠ 0) : printL true v = 45 :: printL false v:=by
 unfold printL
 have hne : digs v v ≠ []:=fun e=>h (digs_nil e)
 rw [if_neg hne,if_neg hne]
 simp
theorem textOf_app (l m : List Nat) : textOf l ++ textOf m = textOf (l ++ m):=by
 unfold textOf
 apply ByteArray.ext
 simp
def digT (n : Int) : ByteArray:=textOf (printL (decide (n < 0)) n.natAbs)
theorem dig_nat {v : Nat} : digT (v : Int) = textOf (printL false v):=by
 unfold digT
 rw [decide_eq_false (by omega)];rfl
theorem dig_one {n : Int} (h0 : 0 <= n) (h1 : n < 10) : digT n = textOf [48 + n.toNat]:=by
 obtain ⟨v,rfl⟩:=Int.eq_ofNat_of_zero_le h0
 rw [dig_nat,print_one (by omega)];rfl
theorem dig_step {n : Int} (h : 10 <= n) : digT n = digT (n / 10) ++ digT (n % 10):=by
 obtain ⟨v,rfl⟩:=Int.eq_ofNat_of_zero_le (by omega : 0 <= n)
 rw [show ((v : Int) / 10) = ((v / 10 : Nat) : Int) by omega,show ((v : Int) % 10) = ((v % 10 : Nat) : Int) by omega,dig_nat,dig_nat,dig_nat,textOf_app,<- print_step (by omega)]
theorem dig_neg {v : Nat} (h : v ≠ 0) : digT (-(v : Int)) = textOf [45] ++ digT (v : Int):=by
 rw [dig_nat,textOf_app]
 unfold digT
 rw [decide_eq_true (by omega),show (-(v : Int)).natAbs = v by omega,print_neg h];rfl
theorem print_len : ∀ (k v : Nat),v < 10 ^ (k + 1) -> (printL false v).length <= k + 1
 | 0,v,h=>by rw [print_one (by simpa using h)];simp
 | k + 1, v, h => by
  by_cases h1 : v < 10
  ·rw [print_one h1];simp
  ·have h2 : v / 10 < 10 ^ (k + 1) := by
    rw [Nat.pow_succ] at h
    exact Nat.div_lt_of_lt_mul (by omega)
   have:=print_len k (v / 10) h2
   rw [print_step (by omega),List.length_append,print_one (by omega : v % 10 < 10)]
   simp;omega
theorem dig_size {v : Nat} (h : v <= 9223372036854775808) : (digT (v : Int)).size <= 19:=by
 rw [dig_nat,textOf_size]
 exact print_len 18 v (by omega)
theorem conv_one (wx : World) (c : Nat) (hc : c < 256) : (convert 123 9 (.slice (some ⟨wx.heap.size,0,none⟩) 1 1)).run Tryz.prog (wx.alloc (.cells #[.int .u8 (c : Int)] 5)) = .ok (.string (textOf [c])) (wx.alloc (.cells #[.int .u8 (c : Int)] 5)):=by
 have hb:=blk_new wx #[.int .u8 (c : Int)] 5
 have:=run_convert_bytes_back (P:=Tryz.prog) (wx.alloc (.cells #[.int .u8 (c : Int)] 5)) 123 9 5 ⟨wx.heap.size,0,none⟩ 1 [UInt8.ofNat c] Tryz.underlying123 Tryz.underlying5 Tryz.underlying9 (fun j hj=>by
  have hj0 : j = 0:=by simpa using hj
  subst hj0
  have e : ([UInt8.ofNat c][0] : UInt8).toNat = c:=by simp;omega
  rw [e]
  simp [Addr.add])
 simpa [textOf] using this
set_option maxHeartbeats 4000000 in
theorem dig_any : ∀ (v : Nat) (hv : v <= 9223372036854775807) (w : World),Calls Tryz.prog 28 #[.int .i64 (v : Int)] w fun e w'=>e = .returned (.string (digT (v : Int))) /\ Below w.heap.size w w':=by
 intro v
 induction v using Nat.strongRecOn with
 | ind v ih =>
  intro hv w
  by_cases h : v < 10
  ·obtain ⟨c, hc⟩ : ∃ c : Nat, c = 48 + v := ⟨_, rfl⟩
   have h1 : IntKind.i64.wrap (48 + (v : Int)) = (c : Int):=by rw [IntKind.wrap_i64];omega
   have h2 : IntKind.u8.wrap (c : Int) = (c : Int):=by rw [IntKind.wrap_u8];omega
   have hd : digT (v : Int) = textOf [c]:=by rw [dig_one (by omega) (by omega),Int.toNat_natCast,hc]
   have hcv:=conv_one w c (by omega)
   have g0 : (0 : Int) <= (v : Int):=by omega
   have g1 : (v : Int) < 10:=by omega
   have hB:=Ba w (.cells #[.int .u8 (c : Int)] 5)
   rw [hd]
   clear hc hd ih hv
   go_enter Tryz.func28,Tryz.ntmps28
   go_wp2
   go_ret
   exact ⟨rfl,hB⟩
  ·obtain ⟨a, ha⟩ : ∃ a, a = v / 10 := ⟨_, rfl⟩
   obtain ⟨b,hb⟩ : ∃ b,b = v % 10:=⟨_,rfl⟩
   have C1:=hid (ih a (by omega) (by omega))
   have C2:=hid (ih b (by omega) (by omega))
   have hd : digT (v : Int) = digT (a : Int) ++ digT (b : Int):=by
    rw [dig_step (by omega),show (v : Int) / 10 = (a : Int) by omega,show (v : Int) % 10 = (b : Int) by omega]
   have h1 : (v : Int).tdiv 10 = (a : Int):=by rw [Int.tdiv_eq_ediv_of_nonneg (by omega)];omega
   have h2 : (v : Int).tmod 10 = (b : Int):=by rw [Int.tmod_eq_emod_of_nonneg (by omega)];omega
   have h3 : IntKind.i64.wrap (a : Int) = (a : Int):=by rw [IntKind.wrap_i64];omega
   have h4 : IntKind.i64.wrap (b : Int) = (b : Int):=by rw [IntKind.wrap_i64];omega
   have g0 : (0 : Int) <= (v : Int):=by omega
   have g1 : (10 : Int) <= (v : Int):=by omega
   have g2 : decide ((v : Int) < 10) = false:=decide_eq_false (by omega)
   have hsz : ¬ 9223372036854775807 < (digT (a : Int)).size + (digT (b : Int)).size:=by
    have:=dig_size (v:=a) (by omega)
    have:=dig_size (v:=b) (by omega)
    omega
   rw [hd]
   clear hd ih hv ha hb
   go_enter Tryz.func28,Tryz.ntmps28
   go_wp2_with (first
    | (go_at_call 28;with_reducible refine (C1.out _).mono ?_;rintro e W1 ⟨rfl,b1⟩)
    | (go_at_call 28;with_reducible refine (C2.out _).mono ?_;rintro e W2 ⟨rfl,b2⟩))
   go_ret
   exact ⟨rfl,Bt b1 b2⟩
theorem wr_in {z : Int} (h0 : 0 <= z) (h1 : z <= 9223372036854775807) : wrap64 z = z:=by unfold wrap64;omega
set_option maxHeartbeats 8000000 in
theorem digits_any (n : Int) (hn : Z64 n) (w : World) : Calls Tryz.prog 28 #[.int .i64 n] w fun e w'=>e = .returned (.string (digT n)) /\ Below w.heap.size w w':=by
 unfold Z64 at hn
 by_cases h0 : 0 <= n
 ·obtain ⟨v, rfl⟩ := Int.eq_ofNat_of_zero_le h0
  exact dig_any v (by omega) w
 ·obtain ⟨v, hv⟩ : ∃ v : Nat, v = n.natAbs := ⟨_, rfl⟩
  obtain rfl : n = -(v : Int):=by omega
  have hd : digT (-(v : Int)) = textOf [45] ++ digT (v : Int):=dig_neg (by omega)
  obtain ⟨u,hu⟩ : ∃ u : Nat,u = v - 1:=⟨_,rfl⟩
  have h1 : IntKind.i64.wrap (-(v : Int) + 1) = -(u : Int):=by rw [IntKind.wrap_i64];omega
  have h2 : IntKind.i64.wrap (-(-(u : Int))) = (u : Int):=by rw [IntKind.wrap_i64];omega
  have hneg : -(v : Int) < 0:=by omega
  have hneg2 : ¬ (0 : Int) <= -(v : Int):=by omega
  obtain ⟨a,ha⟩ : ∃ a,a = u / 10:=⟨_,rfl⟩
  obtain ⟨b,hb⟩ : ∃ b,b = u % 10:=⟨_,rfl⟩
  have h3 : (u : Int).tdiv 10 = (a : Int):=by rw [Int.tdiv_eq_ediv_of_nonneg (by omega)];omega
  have h4 : (u : Int).tmod 10 = (b : Int):=by rw [Int.tmod_eq_emod_of_nonneg (by omega)];omega
  have H1:=hid h1
  have H2:=hid h2
  have H3:=hid h3
  have H4:=hid h4
  have hvab : v = 10 * a + b + 1:=by omega
  have hb9' : b <= 9:=by omega
  have hul : u <= 9223372036854775807:=by omega
  have hvl : v <= 9223372036854775808:=by omega
  clear h1 h2 h3 h4 hv hu ha hb hn h0
  have k1 : wrap64 (u : Int) = (u : Int):=wr_in (by omega) (by have:=hul;omega)
  have k2 : wrap64 (a : Int) = (a : Int):=wr_in (by omega) (by omega)
  have t45 : textOf [45] = ⟨#[45]⟩:=rfl
  have s45 : (⟨#[45]⟩ : ByteArray).size = 1:=rfl
  by_cases hb9 : b = 9
  ·obtain ⟨c, hc⟩ : ∃ c, c = a + 1 := ⟨_, rfl⟩
   have k3 : wrap64 ((a : Int) + 1) = (c : Int):=(wr_in (by omega) (by omega)).trans (by omega)
   have k4 : (((c : Int)) == 0) = false:=by simp;omega
   have hd2 : digT (v : Int) = digT (c : Int) ++ digT 0:=by
    rw [dig_step (by omega),show (v : Int) / 10 = (c : Int) by omega,show (v : Int) % 10 = 0 by omega]
   have C1:=hid (dig_any c (by omega))
   have C2:=hid (dig_any 0 (by omega))
   have z1:=dig_size (v:=c) (by omega)
   have z2:=dig_size (v:=0) (by omega)
   have e0 : (((0 : Nat)) : Int) = 0:=rfl
   rw [e0] at C2 z2
   have hs1 : ¬ 9223372036854775807 < (⟨#[45]⟩ : ByteArray).size + (digT (c : Int)).size:=by rw [s45];omega
   have hs2 : ¬ 9223372036854775807 < ((⟨#[45]⟩ : ByteArray) ++ digT (c : Int)).size + (digT 0).size:=by rw [ByteArray.size_append,s45];omega
   have hb1 : (b : Int) = 9:=by omega
   have h4:=H4.out
   rw [hb1] at h4
   rw [hd,t45,hd2,<- ByteArray.append_assoc]
   have h1:=H1.out
   have h2:=H2.out
   have h3:=H3.out
   clear hd t45 hc hd2 hb9 hb1 z1 z2 s45 hvab hb9' hvl hul
   go_enter Tryz.func28,Tryz.ntmps28
   go_wp2_with (first
    | (go_at_call 28;with_reducible refine (C1.out _).mono ?_;rintro e W1 ⟨rfl,b1⟩)
    | (go_at_call 28;with_reducible refine (C2.out _).mono ?_;rintro e W2 ⟨rfl,b2⟩))
   go_ret
   exact ⟨rfl,Bt b1 b2⟩
  ·obtain ⟨d, hdd⟩ : ∃ c, c = b + 1 := ⟨_, rfl⟩
   have k3 : wrap64 ((b : Int) + 1) = (d : Int):=(wr_in (by omega) (by omega)).trans (by omega)
   have k5 : (((d : Int)) == 10) = false:=by simp;omega
   have C2:=hid (dig_any d (by omega))
   have z2:=dig_size (v:=d) (by omega)
   by_cases ha0 : a = 0
   ·have hd2 : digT (v : Int) = digT (d : Int) := by rw [show (v : Int) = (d : Int) by omega]
    have hs1 : ¬ 9223372036854775807 < (⟨#[45]⟩ : ByteArray).size + (digT (d : Int)).size:=by rw [s45];omega
    have ha1 : (a : Int) = 0:=by omega
    have w0 : wrap64 0 = 0:=wr_in (by omega) (by omega)
    have h3:=H3.out
    rw [ha1] at h3
    rw [hd,t45,hd2]
    have h1:=H1.out
    have h2:=H2.out
    have h4:=H4.out
    clear hd t45 hdd hd2 hb9 ha0 ha1 z2 s45 k2 hvab hb9' hvl hul
    go_enter Tryz.func28,Tryz.ntmps28
    go_wp2_with (go_at_call 28;with_reducible refine (C2.out _).mono ?_;rintro e W2 ⟨rfl,b2⟩)
    go_ret
    exact ⟨rfl,b2⟩
   ·have k4 : (((a : Int)) == 0) = false := by simp; omega
    have hd2 : digT (v : Int) = digT (a : Int) ++ digT (d : Int):=by
     rw [dig_step (by omega),show (v : Int) / 10 = (a : Int) by omega,show (v : Int) % 10 = (d : Int) by omega]
    have C1:=hid (dig_any a (by omega))
    have z1:=dig_size (v:=a) (by omega)
    have hs1 : ¬ 9223372036854775807 < (⟨#[45]⟩ : ByteArray).size + (digT (a : Int)).size:=by rw [s45];omega
    have hs2 : ¬ 9223372036854775807 < ((⟨#[45]⟩ : ByteArray) ++ digT (a : Int)).size + (digT (d : Int)).size:=by rw [ByteArray.size_append,s45];omega
    rw [hd,t45,hd2,<- ByteArray.append_assoc]
    have h1:=H1.out
    have h2:=H2.out
    have h3:=H3.out
    have h4:=H4.out
    clear hd t45 hdd hd2 hb9 ha0 z1 z2 s45 hvab hb9' hvl hul
    go_enter Tryz.func28,Tryz.ntmps28
    go_wp2_with (first
     | (go_at_call 28;with_reducible refine (C1.out _).mono ?_;rintro e W1 ⟨rfl,b1⟩)
     | (go_at_call 28;with_reducible refine (C2.out _).mono ?_;rintro e W2 ⟨rfl,b2⟩))
    go_ret
    exact ⟨rfl,Bt b1 b2⟩
theorem getD_mem0 {l : List Int} {m : Nat} (hm : m < l.length) : l.getD m 0∈l:=by
 have : l.getD m 0 = l[m]:=by simp [List.getD_eq_getElem?_getD,List.getElem?_eq_getElem hm]
 rw [this];exact List.getElem_mem _
theorem range_in {n : Nat} {z : Int} : z∈rangeI n ↔ 0 <= z /\ z < n:=by
 unfold rangeI
 rw [List.mem_map]
 constructor
 ·rintro ⟨k, hk, rfl⟩
  have:=List.mem_range.1 hk
  omega
 ·rintro ⟨h0, h1⟩
  exact ⟨z.toNat,List.mem_range.2 (by omega),by omega⟩
section
variable {ns : List Nd}
theorem laid_words (hs : smallG ns) (hk : ∀ d∈ns,d.kids.length <= 100) (hn : ns.length <= 100) (e : (laidR ns).2.1 = 0) :
  ∃ (cs : List Nd) (φ : Int -> Int),PutOk 20000 [] [] cs /\ Sim ns cs φ (fun i=>0 <= i /\ i < ns.length) /\ (∀ j j',j < j' -> j' < cs.length -> atomB (cs.getD j default).kind = true -> ¬ sameA (cs.getD j default) (cs.getD j' default)) /\ (laidR ns).2.2.1 = pO [] [] cs /\ (∀ i,i < ns.length -> (laidR ns).1.getD i 0 = pW [] [] cs (φ i)) /\ (laidR ns).1.length = ns.length /\ goodG ns (rangeI ns.length) = true:=by
 have h:=put_done (N:=20000) (os:=[]) (nm:=[]) (rs:=rangeI ns.length) e hs hk hn (by omega) (by simp)
 have hF : Fine ns (rangeI ns.length) 300001:=⟨h.good,hk,by omega,by omega⟩
 obtain ⟨_,_,hm⟩:=hF.ends
 have hS:=hF.sim
 have hM : ∀ i : Int,0 <= i -> i < ns.length -> (endS ns (rangeI ns.length) 300001).1.getD i.toNat 0 ≠ -1:=fun i h0 h1=>hm i (range_in.2 ⟨h0,h1⟩)
 refine ⟨(canonN ns (rangeI ns.length)).1,fun i=>(endS ns (rangeI ns.length) 300001).1.getD i.toNat 0,h.ok,⟨fun i hi=>hi,fun i hi=>hS.rng' i ⟨hi.1,hi.2,hM i hi.1 hi.2⟩,fun i hi k hkk=>?_,fun i hi=>hS.node i ⟨hi.1,hi.2,hM i hi.1 hi.2⟩,fun i i' hi hi'=>hS.inj i i' ⟨hi.1,hi.2,hM i hi.1 hi.2⟩ ⟨hi'.1,hi'.2,hM i' hi'.1 hi'.2⟩,fun i hi=>hS.bare i ⟨hi.1,hi.2,hM i hi.1 hi.2⟩⟩,h.ord.dist,by rw [laidR,h.objs],fun i hi=>?_,?_,h.good⟩
 ·have := hS.kids i ⟨hi.1, hi.2, hM i hi.1 hi.2⟩ k hkk
  exact ⟨this.1,this.2.1⟩
 ·have hc : (canonN ns (rangeI ns.length)).2 = renum (endS ns (rangeI ns.length) 300001).1 (rangeI ns.length) := by unfold canonN; rw [hF.canon]
  rw [laidR,h.words]
  unfold pR
  rw [hc]
  unfold renum
  rw [List.map_map,List.getD_eq_getElem?_getD,List.getElem?_map,show (rangeI ns.length)[i]? = some (i : Int) by unfold rangeI;rw [List.getElem?_map,List.getElem?_range hi];rfl]
  rfl
 ·rw [laidR, h.words]
  unfold pR
  rw [List.length_map,h.len.2,range_len]
end
structure Chain (ns : List Nd) (o : Nat) (l : List Int) : Prop where
 fits : o + 2 * l.length < ns.length
 nul : ns.getD o default = ⟨1,0,ByteArray.empty,[]⟩
 num : ∀ i,i < l.length -> ns.getD (o + 2 * i + 1) default = ⟨3,0,digT (l.getD i 0),[]⟩
 pr : ∀ i,i < l.length -> ns.getD (o + 2 * i + 2) default = ⟨7,0,ByteArray.empty,[((o + 2 * i + 1 : Nat) : Int),((o + 2 * i : Nat) : Int)]⟩
theorem dig_lt (n : Int) (h : Z64 n) : n.natAbs < B32 ^ 40:=by
 have e : (9223372036854775808 : Nat) < B32 ^ 40:=by unfold B32;decide
 unfold Z64 at h
 exact Nat.lt_of_le_of_lt (by omega) e
theorem dig_printed {n : Int} (h : Z64 n) : printedB (digT n) = true:=printed_ok neg_nz (dig_lt n h)
theorem dig_inj {n m : Int} (hn : Z64 n) (hm : Z64 m) (e : digT n = digT m) : n = m:=by
 have key : ∀ n : Int,Z64 n -> txZ (digT n) = n:=fun n hn=>by
  have hp:=dig_printed hn
  have hb : bs (digT n) = printL (decide (n < 0)) n.natAbs:=bs_textOf (printL_lt _ _)
  have hd:=(digs_ok n.natAbs n.natAbs (Nat.le_refl _))
  unfold txZ
  rw [hb,printL_cut _ _ neg_nz]
  simp only
  rw [show hv 10 (body (digs n.natAbs n.natAbs)) = n.natAbs by rw [body_val hd.1 (by omega),hd.2.2.1]]
  unfold sgn
  by_cases h0 : n < 0
  ·rw [decide_eq_true h0,decide_eq_true (by omega)];simp;omega
  ·rw [decide_eq_false h0];simp;omega
 rw [<- key n hn,<- key m hm,e]
section
variable {ns : List Nd}
theorem eqv_said {os : List Ob} {nm : List ByteArray} {x y : Int} (h : Eqv (hpO os) x y) : wordD os nm x = wordD os nm y:=by
 rcases h with rfl | ⟨f,h1,h2,_⟩
 ·rfl
 ·obtain ⟨i, a1, a2, a3⟩ := hp_inv h1
  obtain ⟨k,b1,b2,b3⟩:=hp_inv h2
  unfold wordD
  rw [a1,b1]
  simp only
  rw [a2,a3,b2,b3]
theorem chain_alike (hs : smallG ns) (hk : ∀ d∈ns,d.kids.length <= 100) (hn : ns.length <= 100) (e : (laidR ns).2.1 = 0) {o p : Nat} {l m : List Int} (C : Chain ns o l) (D : Chain ns p m) (hl : ∀ z∈l,Z64 z) (hm : ∀ z∈m,Z64 z) :
  ∀ i j,i <= l.length -> j <= m.length -> (Alike (hpO (laidR ns).2.2.1) ((laidR ns).1.getD (o + 2 * i) 0) ((laidR ns).1.getD (p + 2 * j) 0) ↔ l.take i = m.take j):=by
 obtain ⟨cs,φ,hok,hS,hdist,ho,hw,_,hg⟩:=laid_words hs hk hn e
 have hlt : ∀ x : Nat,x < ns.length -> 0 <= φ x /\ (φ x).toNat < cs.length:=fun x hx=>by
  have:=hS.rng' x ⟨by omega,by omega⟩
  exact ⟨this.1,by omega⟩
 have nd : ∀ x : Nat,x < ns.length -> cs.getD (φ x).toNat default = { ns.getD x default with kids:=(ns.getD x default).kids.map φ }:=fun x hx=>by
  have:=hS.node x ⟨by omega,by omega⟩
  rwa [Int.toNat_natCast] at this
 have pair : ∀ x a b : Nat,x < ns.length -> ns.getD x default = ⟨7,0,ByteArray.empty,[(a : Int),(b : Int)]⟩ -> a < ns.length -> b < ns.length -> hpO (laidR ns).2.2.1 ((laidR ns).1.getD x 0) = some (1,[(laidR ns).1.getD a 0,(laidR ns).1.getD b 0]):=fun x a b hx hd ha hb=>by
  have n1:=nd x hx
  rw [hd] at n1
  obtain ⟨k,f1,g1,_⟩:=hok.place (hlt x hx).2 (by rw [n1];unfold sizeN;simp)
  rw [ho,hw x hx,hp_some f1,g1,n1,hw a ha,hw b hb]
  rfl
 have null : ∀ x : Nat,x < ns.length -> ns.getD x default = ⟨1,0,ByteArray.empty,[]⟩ -> hpO (laidR ns).2.2.1 ((laidR ns).1.getD x 0) = none:=fun x hx hd=>by
  have n1:=nd x hx
  rw [hd] at n1
  rw [ho,hw x hx]
  refine hp_none (find_not (fun h2=>?_))
  have:=(hok.says (hlt x hx).2).1 h2
  rw [n1] at this
  unfold sizeN at this
  simp at this
 have same : ∀ x y : Nat,x < ns.length -> y < ns.length -> atomB (ns.getD x default).kind = true -> ns.getD x default = ns.getD y default -> (laidR ns).1.getD x 0 = (laidR ns).1.getD y 0:=fun x y hx hy ha hd=>by
  have n1:=nd x hx
  have n2:=nd y hy
  rw [<- hd] at n2
  have l1:=hlt x hx
  have l2:=hlt y hy
  have hsame : sameA (cs.getD (φ x).toNat default) (cs.getD (φ y).toNat default):=by rw [n1,n2];exact ⟨rfl,rfl,rfl⟩
  have : φ x = φ y:=by
   rcases Nat.lt_trichotomy (φ x).toNat (φ y).toNat with h | h | h
   ·exact absurd hsame (hdist _ _ h l2.2 (by rw [n1];exact ha))
   ·omega
   ·exact absurd hsame.symm (hdist _ _ h l1.2 (by rw [n2];exact ha))
  rw [hw x hx,hw y hy,this]
 have nums : ∀ (x y : Nat) (a b : Int), x < ns.length -> y < ns.length -> Z64 a -> Z64 b -> ns.getD x default = ⟨3, 0, digT a, []⟩ -> ns.getD y default = ⟨3, 0, digT b, []⟩ -> (Alike (hpO (laidR ns).2.2.1) ((laidR ns).1.getD x 0) ((laidR ns).1.getD y 0) ↔ a = b) := fun x y a b hx hy ha hb hdx hdy => by
  constructor
  ·intro h
   have n1:=nd x hx
   have n2:=nd y hy
   rw [hdx] at n1
   rw [hdy] at n2
   have t1:=hok.told (hlt x hx).2
   have t2:=hok.told (hlt y hy).2
   have hE : Eqv (hpO (laidR ns).2.2.1) ((laidR ns).1.getD x 0) ((laidR ns).1.getD y 0):=by
    rcases alike_bis _ _ h with h | ⟨k,f,g,h1,h2,h3,_⟩
    ·exact h
    ·exfalso
     rw [ho,hw x hx] at h1
     obtain ⟨q,q1,q2,q3⟩:=hp_inv h1
     have hz:=(hok.says (hlt x hx).2).1 (find_place q1)
     obtain ⟨q',f1,g1,_⟩:=hok.place (hlt x hx).2 hz
     have : q = q':=Option.some.inj (q1.symm.trans f1)
     subst this
     have hk5 : ((pO [] [] cs).getD q default).kind = 5:=by
      show (([] ++ objsOf (putS [] (usedL []) cs).ws cs).getD q default).kind = 5
      rw [g1,n1];rfl
     rw [hk5] at q2
     omega
   have hsd:=eqv_said (nm:=(putS [] (usedL []) cs).nm) hE
   rw [ho,hw x hx,hw y hy] at hsd
   have hsd':=t1.symm.trans (hsd.trans t2)
   rw [n1,n2] at hsd'
   injection hsd' with _ _ h3 _
   exact dig_inj ha hb h3
  ·rintro rfl
   rw [same x y hx hy (by rw [hdx];rfl) (by rw [hdx,hdy])]
   exact Alike.refl _
 have cf:=C.fits
 have df:=D.fits
 intro i
 induction i with
 | zero =>
  intro j hi hj
  have n0:=null o (by omega) C.nul
  cases j with
  | zero =>
   refine ⟨fun _=>rfl,fun _=>?_⟩
   have:=same o p (by omega) (by omega) (by rw [C.nul];rfl) (by rw [C.nul,D.nul])
   show Alike (hpO (laidR ns).2.2.1) ((laidR ns).1.getD o 0) ((laidR ns).1.getD p 0)
   rw [this]
   exact Alike.refl _
  | succ j =>
   have p1:=pair (p + 2 * j + 2) (p + 2 * j + 1) (p + 2 * j) (by omega) (D.pr j (by omega)) (by omega) (by omega)
   constructor
   ·intro h
    exfalso
    have h : Alike (hpO (laidR ns).2.2.1) ((laidR ns).1.getD o 0) ((laidR ns).1.getD (p + 2 * j + 2) 0):=h
    rcases alike_bis _ _ h with (h | ⟨f,h1,_⟩) | ⟨k,f,g,h1,_⟩
    ·rw [<- h,n0] at p1;cases p1
    ·rw [n0] at h1;cases h1
    ·rw [n0] at h1;cases h1
   ·intro h
    have:=congrArg List.length h
    rw [List.take_zero,List.length_nil,List.length_take] at this
    omega
 | succ i ih =>
  intro j hi hj
  have p1:=pair (o + 2 * i + 2) (o + 2 * i + 1) (o + 2 * i) (by omega) (C.pr i (by omega)) (by omega) (by omega)
  rw [show o + 2 * (i + 1) = o + 2 * i + 2 by omega]
  cases j with
  | zero =>
   have n0:=null p (by omega) D.nul
   constructor
   ·intro h
    exfalso
    have h : Alike (hpO (laidR ns).2.2.1) ((laidR ns).1.getD (o + 2 * i + 2) 0) ((laidR ns).1.getD p 0):=h
    rcases alike_bis _ _ h with (h | ⟨f,_,h1,_⟩) | ⟨k,f,g,_,h1,_⟩
    ·rw [h,n0] at p1;cases p1
    ·rw [n0] at h1;cases h1
    ·rw [n0] at h1;cases h1
   ·intro h
    have:=congrArg List.length h
    rw [List.take_zero,List.length_nil,List.length_take] at this
    omega
  | succ j =>
   have p2:=pair (p + 2 * j + 2) (p + 2 * j + 1) (p + 2 * j) (by omega) (D.pr j (by omega)) (by omega) (by omega)
   rw [show p + 2 * (j + 1) = p + 2 * j + 2 by omega]
   have hnum:=nums (o + 2 * i + 1) (p + 2 * j + 1) (l.getD i 0) (m.getD j 0) (by omega) (by omega) (hl _ (getD_mem0 (by omega))) (hm _ (getD_mem0 (by omega))) (C.num i (by omega)) (D.num j (by omega))
   have hrest:=ih j (by omega) (by omega)
   have hcons : l.take (i + 1) = m.take (j + 1) ↔ (l.take i = m.take j /\ l.getD i 0 = m.getD j 0):=by
    rw [take_succ_of 0 (by omega : i < l.length),take_succ_of 0 (by omega : j < m.length)]
    constructor
    ·intro h
     obtain ⟨h1,h2⟩:=List.append_inj' h rfl
     exact ⟨h1,List.head_eq_of_cons_eq h2⟩
    ·rintro ⟨h1, h2⟩
     rw [h1,h2]
   rw [hcons,<- hrest,<- hnum]
   constructor
   ·intro h
    rcases alike_bis _ _ h with (h | ⟨f,h1,_⟩) | ⟨k,f,g,h1,h2,_,_,h5⟩
    ·rw [h] at p1
     rw [p1] at p2
     injection p2 with p2
     injection p2 with _ p2
     injection p2 with e1 p2
     injection p2 with e2 _
     rw [e1,e2]
     exact ⟨Alike.refl _,Alike.refl _⟩
    ·rw [p1] at h1;injection h1 with h1;injection h1 with h1 _;cases h1
    ·rw [p1] at h1
     rw [p2] at h2
     injection h1 with h1
     injection h1 with _ h1
     injection h2 with h2
     injection h2 with _ h2
     subst h1 h2
     exact ⟨h5 1 (by simp),h5 0 (by simp)⟩
   ·rintro ⟨h1, h2⟩
    refine ⟨fun a b=>Alike (hpO (laidR ns).2.2.1) a b \/ (a = (laidR ns).1.getD (o + 2 * i + 2) 0 /\ b = (laidR ns).1.getD (p + 2 * j + 2) 0),fun a b hab=>?_,.inr ⟨rfl,rfl⟩⟩
    rcases hab with hab | ⟨rfl,rfl⟩
    ·rcases alike_bis _ _ hab with h | ⟨k, f, g, q1, q2, q3, q4, q5⟩
     ·exact .inl h
     ·exact .inr ⟨k,f,g,q1,q2,q3,q4,fun x hx=>.inl (q5 x hx)⟩
    ·refine .inr ⟨1, _, _, p1, p2, ⟨by omega, by omega⟩, rfl, fun x hx => .inl ?_⟩
     have : x = 0 \/ x = 1:=by simp at hx;omega
     rcases this with rfl | rfl
     ·exact h2
     ·exact h1
end
end Go.Proofs.YticimejfjjmikaaGreatDoor
