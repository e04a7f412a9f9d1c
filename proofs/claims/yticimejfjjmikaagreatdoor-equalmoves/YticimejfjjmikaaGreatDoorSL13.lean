import Derived.Test.YticimejfjjmikaaGreatDoorQ4
import Derived.Test.YticimejfjjmikaaGreatDoorSL35
import Derived.Test.YticimejfjjmikaaGreatDoorSL32
set_option linter.unusedVariables false
set_option linter.unusedSimpArgs false
set_option maxRecDepth 100000
namespace Go.Proofs.YticimejfjjmikaaGreatDoor
open Go.RowKit
section
variable {B : Nat} {v vn : Value} {N : Int} {os : List Ob} {nm : List ByteArray} {F : Nat -> Prop} {gs : Nat} {w : World}
set_option maxHeartbeats 8000000 in
theorem zsx (p : Int) (hp : U64 p) (w : World) (h : HE B v N os F w) (hs : SB gs v vn w) {k : Nat} (hf : zr os p = some k) :
  Calls Tryz.prog 120 #[.pointer (some ⟨gs,0,none⟩),.int .u64 p] w fun e w'=>∃ ao cap,e = .returned (.slice ao (os.getD k default).f.length cap) /\ URow w' ao (os.getD k default).f.length cap (os.getD k default).f /\ (∀ a,ao = some a -> w.heap.size <= a.block) /\ Below w.heap.size w w':=by
 have hk:=(yc hf).1
 have hal:=kj hk
 have hbd:=h.used
 have hx:=yi hk
 have huf:=h.fine.uf _ hx
 have hnh:=h.fine.nh _ hx
 have C:=hid (zga h.fine p hp w h.ph)
 have e1 : zem os p = (((os.getD k default).f.length : Int),0):=by unfold zem;rw [hf]
 rw [e1] at C
 have HG : Hid (∀ (i : Nat) (W : World),i < (os.getD k default).f.length -> Below w.heap.size w W -> Calls Tryz.prog 156 #[v,.int .u64 p,.int .i64 0,.int .i64 (i : Nat)] W fun e w'=>e = .returned (.tuple #[.int .u64 ((os.getD k default).f.getD i 0),.int .i64 0]) /\ Below W.heap.size W w'):=fun i W hi hb=>by
  have:=zpv h.fine p 0 (i : Nat) hp (by unfold Z64;omega) (by unfold Z64;omega) W (h.on hb).ph
  rw [zgd hf hi] at this
  exact this
 have HSB : Hid (∀ W,Below w.heap.size w W -> W.cell? ⟨gs,0,none⟩ = some v):=fun W hb=>(hs.on hb).1
 have hfl : (os.getD k default).f.length <= 4194304:=by omega
 obtain ⟨gh,hv⟩:=h.ph.ptr
 obtain ⟨fl,hfle⟩ : ∃ f,f = (os.getD k default).f:=⟨_,rfl⟩
 rw [<- hfle] at C HG huf hnh hfl ⊢
 have HU:=hid huf
 have HH : Hid (∀ i,i < fl.length -> ∀ W,Calls Tryz.prog 115 #[.int .u64 (fl.getD i 0)] W fun e w'=>∃ a b,e = .returned (.tuple #[.int .i64 a,.int .i64 b,.bool false]) /\ w' = W):=fun i hi W=>by
  have:=ko (fl.getD i 0) (huf _ (zq hi)) W
  have e8 : isR 8 (fl.getD i 0) = false:=hnh _ (zq hi)
  rw [e8] at this
  exact this.mono (fun e w' ⟨h1,h2⟩=>⟨_,_,h1,h2⟩)
 obtain ⟨n,hn⟩ : ∃ n,n = fl.length:=⟨_,rfl⟩
 rw [<- hn] at C HG hfl HH ⊢
 have HN:=hid hn
 have c0:=HSB.out w (Below.refl _ _)
 subst hv
 clear h hs hf hk hal hbd hx huf hnh e1 hfle hn
 go_enter Tryz.func120,Tryz.ntmps120
 go_wp2_with (go_at_call 153;(with_reducible refine C.out.mono ?_);rintro e W1 ⟨rfl,b1⟩;have HB1:=hid b1;clear b1)
 clear c0
 go_loopw [5,8,9,10,11,12,13,24] (fun v _ _ _ _ _ _ i wr=>∃ q : Nat,q <= n /\ i = .int .i64 q /\ Hid (wr.ownsRow w.heap.size 44 1 v q (uz (fl.take q)) /\ Below w.heap.size w wr)) (fun _ _ _ _ _ _ _ i _=>n - (intOf i).toNat)
 case atStart=>exact ⟨0,Nat.zero_le _,rfl,World.ownsRow_nil _ _ _ _,HB1.out⟩
 case round =>
  obtain ⟨q,hq,rfl,hI⟩:=hrel
  have HOQ:=hid hI.out.1
  have HBQ:=hid hI.out.2
  clear hI
  by_cases hlt : q < n
  ·have c0 := HSB.out wr HBQ.out
   have C1:=hid (HG.out q wr hlt HBQ.out)
   have C2:=hid (HH.out q hlt)
   have HT : Hid (fl.take (q + 1) = fl.take q ++ [fl.getD q 0]):=by
    unfold Hid
    have : q < fl.length:=by rw [<- HN.out];exact hlt
    rw [List.take_succ_eq_append_getElem this,List.getD_eq_getElem?_getD,List.getElem?_eq_getElem this];rfl
   have hzu : Hid (U64 (fl.getD q 0)):=HU.out _ (zq (by rw [<- HN.out];exact hlt))
   obtain ⟨zx,hzx⟩ : ∃ z,z = fl.getD q 0:=⟨_,rfl⟩
   rw [<- hzx] at C1 C2 HT hzu
   have arm : Hid (∀ W,Below wr.heap.size wr W -> (W.alloc (.cells #[.int .u64 zx] 44)).ownsRow w.heap.size 44 1 u5 q (uz (fl.take q)) /\ URow (W.alloc (.cells #[.int .u64 zx] 44)) (some ⟨W.heap.size,0,none⟩) 1 1 [zx] /\ Below w.heap.size w (W.alloc (.cells #[.int .u64 zx] 44))):=fun W hb =>
    ⟨je (je HOQ.out hb) (Ba W _),qp (zd W #[.int .u64 zx] 44) hzu.out,Bt (Bt HBQ.out (hb)) (Ba W _)⟩
   clear hzx
   go_wp2_with (first
    | (go_at_call 156;(with_reducible refine C1.out.mono ?_);rintro e W3 ⟨rfl,b3⟩;obtain ⟨a1,a2,a3⟩:=arm.out W3 b3;have HO1:=hid a1;have HU1:=hid a2;have HBA:=hid a3;have HSA:=hid a3.size;clear b3 a1 a2 a3)
    | (go_at_call 115;(with_reducible refine (C2.out _).mono ?_);rintro e W4 ⟨x1,x2,rfl,hw4⟩;rw [hw4];clear hw4)
    | (at_builtin;refine appU rfl _ _ 23 rfl w.heap.size 44 Tryz.underlying23 yn _ q (fl.take q) rfl HO1.out (some ⟨W3.heap.size,0,none⟩) 1 1 [zx] rfl HU1.out (by omega) HSA.out ?_;intro v2 w2 ho2 hg2))
   have HE : Hid (Below w.heap.size w w2):=HBA.out.grown hg2 HSA.out (fun b hb=>(HO1.out.lt b hb).1)
   refine ⟨⟨q + 1,by omega,by go_num,?_,HE.out⟩,by simp [intOf] <;> omega⟩
   rw [HT.out];exact ho2
  ·obtain rfl : n = q := by omega
   have hoq:=HOQ.out
   rw [List.take_of_length_le (by rw [<- HN.out];exact Nat.le_refl _)] at hoq
   have hoq':=hoq
   rw [HN.out] at hoq'
   obtain ⟨ao,cap,hv,hu⟩:=xy hoq' HU.out
   rw [<- HN.out] at hv hu
   subst hv
   have HUU:=hid hu
   have HLT : Hid (∀ a,ao = some a -> w.heap.size <= a.block):=fun a e=>(hoq.lt a.block (by rw [e];rfl)).1
   clear hoq hoq' hu
   go_wp2_with fail
   go_ret
   exact ⟨ao,cap,rfl,HUU.out,HLT.out,HBQ.out⟩
set_option maxHeartbeats 16000000 in
theorem zsy (p : Int) (hp : U64 p) (w : World) (h : HE B v N os F w) (hs : SB gs v vn w) {k : Nat} (hf : zr os p = some k) (h5 : (os.getD k default).kind = 5) :
  Calls Tryz.prog 74 #[.pointer (some ⟨gs,0,none⟩),.int .u64 p,.int .i64 5] w (zhd (f6 (os.getD k default).f) w):=by
 have hk:=(yc hf).1
 have hal:=kj hk
 have hbd:=h.used
 have hfl : (os.getD k default).f.length <= 5000000:=by omega
 have hz:=NZ.new w
 have b0:=Ba w (.cells #[.int .i64 0,.int .i64 0,.string ⟨#[]⟩,.slice none 0 0] 54)
 have CF:=hid (zsx p hp _ (h.on b0) (hs.on b0) hf)
 obtain ⟨W0,hW0⟩ : ∃ W,W = w.alloc (.cells #[.int .i64 0,.int .i64 0,.string ⟨#[]⟩,.slice none 0 0] 54):=⟨_,rfl⟩
 rw [<- hW0] at hz b0 CF
 have HZ:=hid hz
 have HB:=hid b0
 have fin : Hid (∀ (k m : Int) (W : World) (t0 : ByteArray),Below W0.heap.size W0 W -> NZ w.heap.size W /\ ((((W.setCell ⟨w.heap.size,0,none⟩ (.int .i64 k)).setCell ⟨w.heap.size,1,none⟩ (.int .i64 m)).setCell ⟨w.heap.size,2,none⟩ (.string t0)).setCell ⟨w.heap.size,3,none⟩ (.slice none 0 0)).heap[w.heap.size]? = some (.cells #[.int .i64 k,.int .i64 m,.string t0,.slice none 0 0] 54 (0,0)) /\ Below w.heap.size w ((((W.setCell ⟨w.heap.size,0,none⟩ (.int .i64 k)).setCell ⟨w.heap.size,1,none⟩ (.int .i64 m)).setCell ⟨w.heap.size,2,none⟩ (.string t0)).setCell ⟨w.heap.size,3,none⟩ (.slice none 0 0)) /\ (∀ b,b ≠ w.heap.size -> ((((W.setCell ⟨w.heap.size,0,none⟩ (.int .i64 k)).setCell ⟨w.heap.size,1,none⟩ (.int .i64 m)).setCell ⟨w.heap.size,2,none⟩ (.string t0)).setCell ⟨w.heap.size,3,none⟩ (.slice none 0 0)).heap[b]? = W.heap[b]?) /\ ((((W.setCell ⟨w.heap.size,0,none⟩ (.int .i64 k)).setCell ⟨w.heap.size,1,none⟩ (.int .i64 m)).setCell ⟨w.heap.size,2,none⟩ (.string t0)).setCell ⟨w.heap.size,3,none⟩ (.slice none 0 0)).heap.size = W.heap.size):=fun k m W t0 hb =>
  ⟨HZ.out.on hb,zve (HZ.out.on hb),zai (Bt HB.out hb) (Nat.le_refl _),fun b hne=>zhj hne,by simp [World.setCell]⟩
 have hs0 : Hid (W0.heap.size = w.heap.size + 1):=by unfold Hid;rw [hW0,zb]
 obtain ⟨fl,hfe⟩ : ∃ x,x = (os.getD k default).f:=⟨_,rfl⟩
 rw [<- hfe] at CF hfl ⊢
 clear h hs hz b0 hk hal hbd hf hfe h5
 have C2 : Hid (∀ (ao : Option Addr) (cap : Nat) (W : World),URow W ao fl.length cap fl -> Calls Tryz.prog 124 #[.slice ao fl.length cap] W fun e w'=>e = .returned (zoj (f6 fl)) /\ Below W.heap.size W w'):=fun ao cap W R=>zav1 ao fl.length cap fl W R hfl
 have hkid : (f6 fl).kids = []:=by unfold f6;split <;> rfl
 obtain ⟨n,hn⟩ : ∃ n,n = fl.length:=⟨_,rfl⟩
 obtain ⟨d,hdd⟩ : ∃ d,d = f6 fl:=⟨_,rfl⟩
 rw [<- hdd] at C2 hkid ⊢
 rw [<- hn] at C2 CF
 obtain ⟨dk,dn,dt,dl⟩:=d
 simp only at hkid
 subst hkid
 unfold zoj at C2
 simp only at C2
 rw [hW0] at CF
 clear hn hdd
 go_enter Tryz.func74,Tryz.ntmps74
 go_wp2_with (first
  | (go_at_call 120;(with_reducible refine CF.out.mono ?_);rintro e W1 ⟨ao,cap,rfl,hu1,ha1,b1⟩;try (rw [<- hW0] at ha1 b1);have HB1:=hid b1;have C3:=hid (C2.out ao cap W1 hu1);clear hu1 ha1 b1)
  | (go_at_call 124;(with_reducible refine C3.out.mono ?_);rintro e W3 ⟨rfl,b3⟩;have hf3:=HB1.out.trans (b3.mono HB1.out.size);clear b3;obtain ⟨hz2,q1,q2,q3,q4⟩:=fin.out dk dn W3 dt hf3;obtain ⟨c0,c1,c2,c3,f0,f1,f2,f3⟩:=hz2.c;have t0:=za q1 0;have t1:=za q1 1;have t2:=za q1 2;have t3:=za q1 3;have HQ2:=hid q2;have HQ3:=hid q3;have HQ4:=hid q4;clear hz2 q1 q2 q3 q4;clear hf3))
 (try simp only [Exit.inBlock,Exit.then]);refine bodyPost_ret (by simp [results,Tryz.results74,go_sem,t0,t1,t2,t3];rfl) rfl ?_
 exact zhd.bare HQ2.out
set_option maxHeartbeats 8000000 in
theorem zbj1 (x : Int) (hx : U64 x) (w : World) (h : HE B v N os F w) (hs : SB gs v vn w) {k : Nat} (hf : zr os x = some k) (h5 : (os.getD k default).kind = 5) :
  Calls Tryz.prog 39 #[.pointer (some ⟨gs,0,none⟩),.int .u64 x] w (zhd (f6 (os.getD k default).f) w):=by
 have hz:=NZ.new w
 have b0:=Ba w (.cells #[.int .i64 0,.int .i64 0,.string ⟨#[]⟩,.slice none 0 0] 54)
 obtain ⟨W0,hW0⟩ : ∃ W,W = w.alloc (.cells #[.int .i64 0,.int .i64 0,.string ⟨#[]⟩,.slice none 0 0] 54):=⟨_,rfl⟩
 rw [<- hW0] at hz b0
 have HZ:=hid hz
 have HB:=hid b0
 have s0:=(hs.on b0).1
 have CK:=hid (zfz h.fine x hx _ (h.on b0).ph)
 have hs0 : Hid (W0.heap.size = w.heap.size + 1):=by unfold Hid;rw [hW0,zb]
 have fin : Hid (∀ (k m : Int) (W : World) (t0 : ByteArray),Below W0.heap.size W0 W -> NZ w.heap.size W /\ ((((W.setCell ⟨w.heap.size,0,none⟩ (.int .i64 k)).setCell ⟨w.heap.size,1,none⟩ (.int .i64 m)).setCell ⟨w.heap.size,2,none⟩ (.string t0)).setCell ⟨w.heap.size,3,none⟩ (.slice none 0 0)).heap[w.heap.size]? = some (.cells #[.int .i64 k,.int .i64 m,.string t0,.slice none 0 0] 54 (0,0)) /\ Below w.heap.size w ((((W.setCell ⟨w.heap.size,0,none⟩ (.int .i64 k)).setCell ⟨w.heap.size,1,none⟩ (.int .i64 m)).setCell ⟨w.heap.size,2,none⟩ (.string t0)).setCell ⟨w.heap.size,3,none⟩ (.slice none 0 0)) /\ (∀ b,b ≠ w.heap.size -> ((((W.setCell ⟨w.heap.size,0,none⟩ (.int .i64 k)).setCell ⟨w.heap.size,1,none⟩ (.int .i64 m)).setCell ⟨w.heap.size,2,none⟩ (.string t0)).setCell ⟨w.heap.size,3,none⟩ (.slice none 0 0)).heap[b]? = W.heap[b]?) /\ ((((W.setCell ⟨w.heap.size,0,none⟩ (.int .i64 k)).setCell ⟨w.heap.size,1,none⟩ (.int .i64 m)).setCell ⟨w.heap.size,2,none⟩ (.string t0)).setCell ⟨w.heap.size,3,none⟩ (.slice none 0 0)).heap.size = W.heap.size):=fun k m W t0 hb =>
  ⟨HZ.out.on hb,zve (HZ.out.on hb),zai (Bt HB.out hb) (Nat.le_refl _),fun b hne=>zhj hne,by simp [World.setCell]⟩
 have CO2 : Hid (∀ W,Below w.heap.size w W -> Calls Tryz.prog 74 #[.pointer (some ⟨gs,0,none⟩),.int .u64 x,.int .i64 5] W (zhd (f6 (os.getD k default).f) W)):=fun W hb=>zsy x hx W (h.on hb) (hs.on hb) hf h5
 obtain ⟨gh,rfl⟩:=h.ph.ptr
 unfold zbn at CK
 rw [hW0] at s0 CK
 clear h hs hz b0
 rw [hf] at CK
 simp only at CK
 rw [h5] at CK
 obtain ⟨d,hdd⟩ : ∃ d,d = f6 (os.getD k default).f:=⟨_,rfl⟩
 rw [<- hdd] at CO2 ⊢
 obtain ⟨dk,dn,dt,dl⟩:=d
 unfold zhd zoj at CO2
 simp only at CO2
 clear hf hdd h5
 go_enter Tryz.func39,Tryz.ntmps39
 go_wp2_with (first
  | (go_at_call 73;(with_reducible refine CK.out.mono ?_);rintro e W1 ⟨rfl,b1⟩;rw [<- hW0] at b1;have HB1:=hid b1;have C2:=hid (CO2.out W1 (Bt HB.out b1));clear b1)
  | (go_at_call 74;(with_reducible refine C2.out.mono ?_);rintro e W3 ⟨ak,nk,ck,rfl,hu3,ha3,b3⟩;have HU3:=hid hu3;have HA3:=hid ha3;have hf3:=HB1.out.trans (b3.mono HB1.out.size);obtain ⟨hz2,q1,q2,q3,q4⟩:=fin.out dk dn W3 dt hf3;obtain ⟨c0,c1,c2,c3,f0,f1,f2,f3⟩:=hz2.c;have t0:=za q1 0;have t1:=za q1 1;have t2:=za q1 2;have t3:=za q1 3;have HQ2:=hid q2;have HQ3:=hid q3;have HQ4:=hid q4;clear hz2 q1 q2 q3 q4 b3 hf3 hu3 ha3))
 (try simp only [Exit.inBlock,Exit.then]);refine bodyPost_ret (by simp [results,Tryz.results39,go_sem,t0,t1,t2,t3];rfl) rfl ?_
 have e1:=HB1.out.size
 have e2:=hs0.out
 exact ⟨ak,nk,ck,rfl,HU3.out.keep (by have:=HQ4.out;omega) (fun _ a e=>HQ3.out _ (by have:=HA3.out a e;omega)),fun a e=>by have:=HA3.out a e;omega,HQ2.out⟩
end
section
variable {B : Nat} {v vn : Value} {N : Int} {os : List Ob} {nm : List ByteArray} {F : Nat -> Prop} {w W : World}
theorem zgv (h : PN B v vn N os nm F w) (hb : Below w.heap.size w W) (hB : B <= w.heap.size) {kind P : Int} {fl : List Int} {os' : List Ob} (hk : Z64 kind) (hal : yh os N kind fl = (P,0)) (hao : yr os N kind fl = os') (ho : OsOk os') {vr : Value} {b1 : Nat} (own : W.ownsRow b1 44 1 vr fl.length (uz fl)) (hb1 : w.heap.size <= b1) (hu : ∀ z∈fl,U64 z) (hl : fl.length <= 1000000) :
  Calls Tryz.prog 47 #[v,.int .i64 kind,vr] W fun e w'=>e = .returned (.tuple #[.int .u64 P,.int .i64 0]) /\ j9 B v vn N F w os' nm w':=by
 obtain ⟨ao,cap,rfl,R⟩:=xy own hu
 have:=zqj (h.on hb) kind hk ao fl.length cap fl R (Nat.le_trans hB hb.size) (fun a e hf=>by
  have h1:=(own.lt a.block (by rw [e];rfl)).1
  have h2:=(h.ge _ hf).2
  omega) hl (by rw [hao];exact ho)
 rw [hal,hao] at this
 refine this.mono ?_
 rintro e w' ⟨rfl,p⟩
 exact ⟨rfl,p.front hb⟩
theorem zid (h : PN B v vn N os nm F w) (hb : Below w.heap.size w W) (hB : B <= w.heap.size) {kind P : Int} {n : Nat} {os' : List Ob} (hk : 1 <= kind /\ kind <= 22) (hal : yh os N kind (List.replicate n 2) = (P,0)) (hao : yr os N kind (List.replicate n 2) = os') (ho : OsOk os') (hn : n <= 1000000) :
  Calls Tryz.prog 34 #[v,.int .i64 kind,.int .i64 n,.int .u64 2] W fun e w'=>e = .returned (.tuple #[.int .u64 P,.int .i64 0]) /\ j9 B v vn N F w os' nm w':=by
 have e1 : zdw os N kind (n : Nat) 2 = (P,0):=by
  unfold zdw
  rw [if_neg (by omega),if_neg (by omega),Int.toNat_natCast];exact hal
 have e2 : zgc os N kind (n : Nat) 2 = os':=by
  unfold zgc
  rw [e1,if_pos rfl,Int.toNat_natCast,<- hao]
  unfold yr
  rw [hal,if_pos rfl]
 have:=zfb1 (h.on hb) kind (n : Nat) 2 (by unfold Z64;omega) (by unfold Z64;omega) (by unfold U64;omega) (Nat.le_trans hB hb.size) (by rw [e2];exact ho)
 rw [e1,e2] at this
 refine this.mono ?_
 rintro e w' ⟨rfl,p⟩
 exact ⟨rfl,p.front hb⟩
theorem kh {d : Nd} (h : d.kind ≠ 6) : jr nm d = nm:=by unfold jr;rw [if_neg h]
set_option maxHeartbeats 8000000 in
theorem zfd1 (d : Nd) (ka : Option Addr) (kc : Nat) (w : World) (h : PN B v vn N os nm F w) (hd : LNd d) (hn2 : d.kind = 2 -> d.num = 0 \/ d.num = 1) (hn4 : d.kind = 4 -> letB d.num = true) (hkk : d.kids.length <= kc) (hkc : kc <= 9223372036854775807) (hB : B <= w.heap.size) (hnm : nm.length <= 1000000)
  (P : Int) (os' : List Ob) (ho : OsOk os') (hz : 0 < zp d -> yh os N (zv d) (vy d) = (P,0) /\ yr os N (zv d) (vy d) = os') (h0 : ¬ 0 < zp d -> os' = os /\ P = ys nm d) :
  Calls Tryz.prog 143 #[v,vn,vg d ka kc] w fun e w'=>e = .returned (.int .u64 P) /\ j9 B v vn N F w os' (jr nm d) w':=by
 have HB:=hid (Ba w (.cells #[.int .i64 d.kind,.int .i64 d.num,.string d.text,.slice ka d.kids.length kc] 54))
 have hx:=zd w #[.int .i64 d.kind,.int .i64 d.num,.string d.text,.slice ka d.kids.length kc] 54
 have HH:=hid h
 have HO:=hid ho
 have HZ:=hid hz
 have H0:=hid h0
 have HP:=hid hd.c.int_
 have HV:=hid hd.tv
 have hge:=hd.sz
 have hkd:=hd.c.kind
 have htx:=hd.c.text
 have hks:=hd.c.kids
 have hnu:=hd.c.num
 have HN2:=hid hn2
 have HN4:=hid hn4
 have hneg:=zjm hd.c
 have HBB:=hid hB
 obtain ⟨gh,gp,rfl,rfl⟩:=h.ptrs
 unfold vg
 clear hd h ho hz h0 hn2 hn4 hB
 obtain ⟨dk,dn,dt,dl⟩:=d
 simp only at HB HZ H0 HP HV htx hkk hks hkd hx hneg hnu HN2 HN4 ⊢
 have c0 : (w.alloc (.cells #[.int .i64 dk,.int .i64 dn,.string dt,.slice ka dl.length kc] 54)).cell? ⟨w.heap.size,0,none⟩ = some (.int .i64 dk):=za hx 0
 have c1 : (w.alloc (.cells #[.int .i64 dk,.int .i64 dn,.string dt,.slice ka dl.length kc] 54)).cell? ⟨w.heap.size,1,none⟩ = some (.int .i64 dn):=za hx 1
 have c2 : (w.alloc (.cells #[.int .i64 dk,.int .i64 dn,.string dt,.slice ka dl.length kc] 54)).cell? ⟨w.heap.size,2,none⟩ = some (.string dt):=za hx 2
 have c3 : (w.alloc (.cells #[.int .i64 dk,.int .i64 dn,.string dt,.slice ka dl.length kc] 54)).cell? ⟨w.heap.size,3,none⟩ = some (.slice ka dl.length kc):=za hx 3
 obtain ⟨kn,hkn⟩ : ∃ n,n = dl.length:=⟨_,rfl⟩
 rw [<- hkn] at HB c0 c1 c2 c3 hkk hks ⊢
 have HKN:=hid hkn
 have same : Hid (∀ W,Below w.heap.size w W -> j9 B (.pointer (some ⟨gh,0,none⟩)) (.pointer (some ⟨gp,0,none⟩)) N F w os nm W):=fun W hb=>j9.same HH.out hb
 clear hx hkn
 by_cases k1 : dk = 1
 ·subst k1
  obtain ⟨rfl,rfl⟩:=H0.out (by unfold zp;rw [if_pos (by simp)];omega)
  rw [kh (by simp)]
  have e : ys nm ⟨1,dn,dt,dl⟩ = 2:=rfl
  rw [e]
  clear hneg hge e
  go_enter Tryz.func143,Tryz.ntmps143
  go_wp2_with fail
  go_ret
  exact ⟨rfl,same.out _ HB.out⟩
 by_cases k2 : dk = 2
 ·subst k2
  obtain ⟨rfl,rfl⟩:=H0.out (by unfold zp;rw [if_pos (by simp)];omega)
  rw [kh (by simp)]
  have C : Hid (∀ (b : Bool) W,Calls Tryz.prog 174 #[.bool b] W fun e w'=>e = .returned (.int .u64 (if b then 18 else 10)) /\ w' = W):=fun b W=>zzl b W
  rcases HN2.out rfl with rfl | rfl
  ·have e : ys nm ⟨2, 0, dt, dl⟩ = 10 := rfl
   rw [e]
   have C2:=hid (C.out false)
   clear hneg hge e
   go_enter Tryz.func143,Tryz.ntmps143
   go_wp2_with (go_at_call 174;(refine (C2.out _).mono ?_);rintro e W2 ⟨rfl,hw2⟩;rw [hw2];clear hw2)
   go_ret
   exact ⟨rfl,same.out _ HB.out⟩
  ·have e : ys nm ⟨2, 1, dt, dl⟩ = 18 := rfl
   rw [e]
   have C2:=hid (C.out true)
   clear hneg hge e
   go_enter Tryz.func143,Tryz.ntmps143
   go_wp2_with (go_at_call 174;(refine (C2.out _).mono ?_);rintro e W2 ⟨rfl,hw2⟩;rw [hw2];clear hw2)
   go_ret
   exact ⟨rfl,same.out _ HB.out⟩
 by_cases k10 : dk = 10
 ·subst k10
  obtain ⟨rfl,rfl⟩:=H0.out (by unfold zp;rw [if_pos (by simp)];omega)
  rw [kh (by simp)]
  have e : ys nm ⟨10,dn,dt,dl⟩ = 26:=rfl
  rw [e]
  clear hneg hge e
  go_enter Tryz.func143,Tryz.ntmps143
  go_wp2_with fail
  go_ret
  exact ⟨rfl,same.out _ HB.out⟩
 by_cases k11 : dk = 11
 ·subst k11
  obtain ⟨rfl,rfl⟩:=H0.out (by unfold zp;rw [if_pos (by simp)];omega)
  rw [kh (by simp)]
  have e : ys nm ⟨11,dn,dt,dl⟩ = 34:=rfl
  rw [e]
  clear hneg hge e
  go_enter Tryz.func143,Tryz.ntmps143
  go_wp2_with fail
  go_ret
  exact ⟨rfl,same.out _ HB.out⟩
 by_cases k4 : dk = 4
 ·subst k4
  obtain ⟨rfl,rfl⟩:=H0.out (by unfold zp;rw [if_pos (by simp)];omega)
  rw [kh (by simp)]
  have e : ys nm ⟨4,dn,dt,dl⟩ = zj 4 dn 0:=rfl
  rw [e]
  have C : Hid (∀ W,Calls Tryz.prog 176 #[.int .i64 dn] W fun e w'=>e = .returned (.tuple #[.int .u64 (zj 4 dn 0),.bool (zm 4 dn 0)]) /\ w' = W):=fun W=>zpo dn (by unfold Z64;omega) W
  obtain ⟨x,hx⟩ : ∃ x,x = zj 4 dn 0:=⟨_,rfl⟩
  obtain ⟨y,hy⟩ : ∃ x,x = zm 4 dn 0:=⟨_,rfl⟩
  rw [<- hx] at C ⊢
  rw [<- hy] at C
  clear hneg hge e hx hy
  go_enter Tryz.func143,Tryz.ntmps143
  go_wp2_with (go_at_call 176;(with_reducible refine (C.out _).mono ?_);rintro e W2 ⟨rfl,hw2⟩;rw [hw2];clear hw2)
  go_ret
  exact ⟨rfl,same.out _ HB.out⟩
 by_cases k6 : dk = 6
 ·subst k6
  obtain ⟨rfl,rfl⟩:=H0.out (by unfold zp;rw [if_pos (by simp)];omega)
  have e : ys nm ⟨6,dn,dt,dl⟩ = zj 5 ((idM nm dt : Nat) : Int) 0:=rfl
  have e' : jr nm ⟨6,dn,dt,dl⟩ = idL nm dt:=rfl
  rw [e,e']
  have C:=hid (zsv (HH.out.on HB.out) dt (Nat.le_trans HBB.out HB.out.size) hnm (by omega))
  obtain ⟨x,hx⟩ : ∃ x,x = zj 5 ((idM nm dt : Nat) : Int) 0:=⟨_,rfl⟩
  rw [<- hx] at C ⊢
  clear hneg hge e e' hx
  go_enter Tryz.func143,Tryz.ntmps143
  go_wp2_with (go_at_call 177;(with_reducible refine C.out.mono ?_);rintro e W2 ⟨rfl,p2⟩;have HP2:=hid (p2.front HB.out);clear p2)
  go_ret
  exact ⟨rfl,HP2.out⟩
 by_cases k3 : dk = 3
 ·subst k3
  rw [kh (by simp)]
  have he : intW os N dt = P /\ intO os N dt = os':=by
   unfold intW intO
   by_cases hf : fixB (txZ dt) = true
   ·rw [if_pos hf, if_pos hf]
    obtain ⟨e1,e2⟩:=H0.out (by unfold zp;rw [if_neg (by simp),if_pos rfl,if_pos hf];omega)
    exact ⟨e2.symm,e1.symm⟩
   ·rw [if_neg hf, if_neg hf]
    have:=HZ.out (by unfold zp;rw [if_neg (by simp),if_pos rfl,if_neg hf];omega)
    have e3 : vy ⟨3,dn,dt,dl⟩ = bigL (decide (txZ dt < 0)) (mg (txZ dt).natAbs):=rfl
    have e4 : zv ⟨3,dn,dt,dl⟩ = 5:=rfl
    rw [e3,e4] at this
    exact ⟨by rw [this.1],this.2⟩
  have C:=hid (zbc1 (HH.out.on HB.out) dt (by omega) (HP.out rfl) (Nat.le_trans HBB.out HB.out.size) (by rw [he.2];exact HO.out))
  rw [he.1,he.2] at C
  clear hneg hge he
  go_enter Tryz.func143,Tryz.ntmps143
  go_wp2_with (go_at_call 175;(with_reducible refine C.out.mono ?_);rintro e W2 ⟨rfl,p2⟩;have HP2:=hid (p2.front HB.out);clear p2)
  go_ret
  exact ⟨rfl,HP2.out⟩
 by_cases k5 : dk = 5
 ·subst k5
  rw [kh (by simp)]
  obtain ⟨e1,e2⟩:=HZ.out (by unfold zp;rw [if_neg (by simp),if_neg (by simp),if_pos rfl];omega)
  have e3 : vy ⟨5,dn,dt,dl⟩ = (ltrs dt).map ltW:=rfl
  have e4 : zv ⟨5,dn,dt,dl⟩ = 3:=rfl
  rw [e3,e4] at e1 e2
  have hll:=zde dt
  have hlm : ((ltrs dt).map ltW).length = (ltrs dt).length:=List.length_map _
  have C1:=hid (zmk dt (by omega) (HV.out rfl) (w.alloc (.cells #[.int .i64 5,.int .i64 dn,.string dt,.slice ka kn kc] 54)))
  have CA : Hid (∀ (vr : Value) (W : World),Below (w.alloc (.cells #[.int .i64 5,.int .i64 dn,.string dt,.slice ka kn kc] 54)).heap.size (w.alloc (.cells #[.int .i64 5,.int .i64 dn,.string dt,.slice ka kn kc] 54)) W -> W.ownsRow (w.alloc (.cells #[.int .i64 5,.int .i64 dn,.string dt,.slice ka kn kc] 54)).heap.size 44 1 vr (ltrs dt).length (uz ((ltrs dt).map ltW)) -> Calls Tryz.prog 47 #[.pointer (some ⟨gh,0,none⟩),.int .i64 3,vr] W fun e w'=>e = .returned (.tuple #[.int .u64 P,.int .i64 0]) /\ j9 B (.pointer (some ⟨gh,0,none⟩)) (.pointer (some ⟨gp,0,none⟩)) N F w os' nm w'):=fun vr W hb own =>
   zgv HH.out (Bt HB.out hb) HBB.out (by unfold Z64;omega) e1 e2 HO.out (by rw [hlm];exact own) HB.out.size (fun z hz=>by obtain ⟨c,_,rfl⟩:=List.mem_map.1 hz;exact z8 _ _ _) (by rw [hlm];omega)
  clear hneg hge e1 e2 e3 e4 hlm hll
  go_enter Tryz.func143,Tryz.ntmps143
  go_wp2_with (first
   | (go_at_call 178;(with_reducible refine C1.out.mono ?_);rintro e W1 ⟨vr,rfl,ho1,b1⟩;have C2:=hid (CA.out vr W1 b1 ho1);clear ho1 b1)
   | (go_at_call 47;(with_reducible refine C2.out.mono ?_);rintro e W2 ⟨rfl,p2⟩;have HP2:=hid p2;clear p2))
  go_ret
  exact ⟨rfl,HP2.out⟩
 by_cases k9 : dk = 9
 ·subst k9
  rw [kh (by simp)]
  obtain ⟨e1,e2⟩:=HZ.out (by unfold zp;rw [if_neg (by simp),if_neg (by simp),if_neg (by simp),if_neg (by simp),if_pos rfl];omega)
  have e3 : vy ⟨9,dn,dt,dl⟩ = qv dt dt.size:=rfl
  have e4 : zv ⟨9,dn,dt,dl⟩ = 4:=rfl
  rw [e3,e4] at e1 e2
  have hlm : (qv dt dt.size).length = dt.size:=zdz _ _
  have C1:=hid (zso dt (by omega) (w.alloc (.cells #[.int .i64 9,.int .i64 dn,.string dt,.slice ka kn kc] 54)))
  have CA : Hid (∀ (vr : Value) (W : World),Below (w.alloc (.cells #[.int .i64 9,.int .i64 dn,.string dt,.slice ka kn kc] 54)).heap.size (w.alloc (.cells #[.int .i64 9,.int .i64 dn,.string dt,.slice ka kn kc] 54)) W -> W.ownsRow (w.alloc (.cells #[.int .i64 9,.int .i64 dn,.string dt,.slice ka kn kc] 54)).heap.size 44 1 vr dt.size (uz (qv dt dt.size)) -> Calls Tryz.prog 47 #[.pointer (some ⟨gh,0,none⟩),.int .i64 4,vr] W fun e w'=>e = .returned (.tuple #[.int .u64 P,.int .i64 0]) /\ j9 B (.pointer (some ⟨gh,0,none⟩)) (.pointer (some ⟨gp,0,none⟩)) N F w os' nm w'):=fun vr W hb own =>
   zgv HH.out (Bt HB.out hb) HBB.out (by unfold Z64;omega) e1 e2 HO.out (by rw [hlm];exact own) HB.out.size (fun z hz=>by unfold qv at hz;obtain ⟨c,_,rfl⟩:=List.mem_map.1 hz;exact z8 _ _ _) (by rw [hlm];omega)
  clear hneg hge e1 e2 e3 e4 hlm
  go_enter Tryz.func143,Tryz.ntmps143
  go_wp2_with (first
   | (go_at_call 179;(with_reducible refine C1.out.mono ?_);rintro e W1 ⟨vr,rfl,ho1,b1⟩;have C2:=hid (CA.out vr W1 b1 ho1);clear ho1 b1)
   | (go_at_call 47;(with_reducible refine C2.out.mono ?_);rintro e W2 ⟨rfl,p2⟩;have HP2:=hid p2;clear p2))
  go_ret
  exact ⟨rfl,HP2.out⟩
 by_cases k7 : dk = 7
 ·subst k7
  rw [kh (by simp)]
  obtain ⟨e1,e2⟩:=HZ.out (zau (.inl rfl))
  have e3 : vy ⟨7,dn,dt,dl⟩ = List.replicate kn 2:=by rw [HKN.out];rfl
  have e4 : zv ⟨7,dn,dt,dl⟩ = 1:=rfl
  rw [e3,e4] at e1 e2
  have C:=hid (zid HH.out HB.out HBB.out (kind:=1) (by omega) e1 e2 HO.out (by omega))
  clear hneg hge e1 e2 e3 e4
  go_enter Tryz.func143,Tryz.ntmps143
  go_wp2_with (go_at_call 34;(with_reducible refine C.out.mono ?_);rintro e W2 ⟨rfl,p2⟩;have HP2:=hid p2;clear p2)
  go_ret
  exact ⟨rfl,HP2.out⟩
 by_cases k8 : dk = 8
 ·subst k8
  rw [kh (by simp)]
  obtain ⟨e1,e2⟩:=HZ.out (zau (.inr rfl))
  have e3 : vy ⟨8,dn,dt,dl⟩ = List.replicate kn 2:=by rw [HKN.out];rfl
  have e4 : zv ⟨8,dn,dt,dl⟩ = 2:=rfl
  rw [e3,e4] at e1 e2
  have C:=hid (zid HH.out HB.out HBB.out (kind:=2) (by omega) e1 e2 HO.out (by omega))
  clear hneg hge e1 e2 e3 e4
  go_enter Tryz.func143,Tryz.ntmps143
  go_wp2_with (go_at_call 34;(with_reducible refine C.out.mono ?_);rintro e W2 ⟨rfl,p2⟩;have HP2:=hid p2;clear p2)
  go_ret
  exact ⟨rfl,HP2.out⟩
 exfalso
 have:=mt hneg.2
 omega
end
structure LQ (B : Nat) (v vn : Value) (N : Int) (F : Nat -> Prop) (W0 : World) (gw : Nat) (os : List Ob) (nm : List ByteArray) (ws : List Int) (wr : World) : Prop where
 pn : ∃ F',PN B v vn N os nm F' wr /\ (∀ b,F' b -> F b \/ W0.heap.size <= b)
 mod : Mod (fun b=>F b \/ b = gw) W0 wr
 row : wr.heap[gw]? = some (.cells (uz ws).toArray 44 (0,0))
 lt : gw < W0.heap.size
 off : ¬ F gw
section
variable {B : Nat} {v vn : Value} {N : Int} {F : Nat -> Prop} {W0 : World} {gw : Nat} {os os' : List Ob} {nm nm' : List ByteArray} {ws : List Int} {wr w' : World}
theorem LQ.size (h : LQ B v vn N F W0 gw os nm ws wr) : W0.heap.size <= wr.heap.size:=h.mod.size
theorem LQ.on (h : LQ B v vn N F W0 gw os nm ws wr) (hb : Below wr.heap.size wr w') : LQ B v vn N F W0 gw os nm ws w':=by
 obtain ⟨F',h1,h2⟩:=h.pn
 have hs:=h.size
 have hl:=h.lt
 exact ⟨⟨F',h1.on hb,h2⟩,h.mod.trans (Mod.of_below _ hb) (fun _ _ e=>e),(hb.block gw (by omega)).trans h.row,h.lt,h.off⟩
theorem LQ.step (h : LQ B v vn N F W0 gw os nm ws wr) {F' : Nat -> Prop} (hf : ∀ b,F' b -> F b \/ W0.heap.size <= b) (p : j9 B v vn N F' wr os' nm' w') : LQ B v vn N F W0 gw os' nm' ws w':=by
 obtain ⟨F2,p1,p2,p3⟩:=p
 have hs:=h.size
 have hl:=h.lt
 refine ⟨⟨F2,p1,fun b e=>?_⟩,h.mod.trans p3 (fun b hb e=>?_),(p3.block gw (by omega) (fun e=>?_)).trans h.row,h.lt,h.off⟩
 ·rcases p2 b e with e | e
  ·exact hf b e
  ·exact .inr (by omega)
 ·rcases hf b e with e | e
  ·exact .inl e
  ·omega
 ·rcases hf gw e with e | e
  ·exact h.off e
  ·omega
theorem LQ.put (h : LQ B v vn N F W0 gw os nm ws wr) (k : Nat) (z : Int) : LQ B v vn N F W0 gw os nm (ws.set k z) (wr.setCell ⟨gw,k,none⟩ (.int .u64 z)):=by
 obtain ⟨F',h1,h2⟩:=h.pn
 have hl:=h.lt
 refine ⟨⟨F',h1.keep (fun b e=>Below.heap_setCell _ _ _ _ (fun e2=>?_)),h2⟩,h.mod.setCell (p:=⟨gw,k,none⟩) (.inl (.inr rfl)) _,?_,h.lt,h.off⟩
 ·have e3 : b = gw := e2
  subst e3
  rcases h2 b e with e | e
  ·exact h.off e
  ·omega
 ·rw [zy h.row]
  simp [uz,List.map_set]
theorem LQ.cell (h : LQ B v vn N F W0 gw os nm ws wr) {k : Nat} (hk : k < ws.length) : wr.cell? ⟨gw,k,none⟩ = some (.int .u64 (ws.getD k 0)):=by
 rw [za h.row,List.getElem?_toArray,zei hk]
end
theorem zsz {nm : List ByteArray} {d : Nd} (h : 0 < zp d) : jr nm d = nm:=by
 refine kh (fun e=>?_)
 unfold zp at h
 rw [if_pos (by omega)] at h
 omega
theorem zbk1 {os : List Ob} (h : OsOk os) (cs : List Nd) : OsOk (os ++ yk cs):=by
 have hu : ∀ d : Nd,∀ z∈vy d,U64 z:=fun d z hz=>by
  unfold vy at hz
  split at hz
  ·obtain ⟨_,rfl⟩:=List.mem_replicate.1 hz;unfold U64;omega
  ·exact zly d (fun z h=>by cases h) z hz
 refine ⟨fun x hx=>?_,fun x hx=>?_,fun x hx=>?_⟩ <;> rcases List.mem_append.1 hx with hx | hx
 ·exact h.kd x hx
 ·unfold yk at hx
  obtain ⟨d,_,rfl⟩:=List.mem_map.1 hx
  have:=zch d
  show 1 <= zv d /\ zv d <= 22
  omega
 ·exact h.uf x hx
 ·unfold yk at hx
  obtain ⟨d,_,rfl⟩:=List.mem_map.1 hx
  exact hu d
 ·exact h.nh x hx
 ·unfold yk at hx
  obtain ⟨d,_,rfl⟩:=List.mem_map.1 hx
  exact zib d
theorem zbl1 {N : Int} {os : List Ob} {nm : List ByteArray} {cs : List Nd} (h : fz N os nm cs) {q : Nat} (hq : q < cs.length) (hz : 0 <= zp (cs.getD q default)) :
  ∃ P,putS nm (zc os) (cs.take (q + 1)) = ⟨(putS nm (zc os) (cs.take q)).ws ++ [P],jr (putS nm (zc os) (cs.take q)).nm (cs.getD q default),(putS nm (zc os) (cs.take (q + 1))).at_⟩ /\ U64 P /\
   (0 < zp (cs.getD q default) -> yh (os ++ yk (cs.take q)) N (zv (cs.getD q default)) (vy (cs.getD q default)) = (P,0) /\ yr (os ++ yk (cs.take q)) N (zv (cs.getD q default)) (vy (cs.getD q default)) = os ++ yk (cs.take (q + 1))) /\
   (¬ 0 < zp (cs.getD q default) -> os ++ yk (cs.take (q + 1)) = os ++ yk (cs.take q) /\ P = ys (putS nm (zc os) (cs.take q)).nm (cs.getD q default)):=by
 by_cases hp : 0 < zp (cs.getD q default)
 ·obtain ⟨e1, e2⟩ := zsu h hq hp
  refine ⟨_,?_,z8 _ _ _,fun _=>⟨e1,e2⟩,fun hn=>absurd hp hn⟩
  rw [zsz hp,j8 hq]
  unfold zas
  rw [if_neg (by omega)]
 ·refine ⟨_, ?_, zlx _ _, fun hn => absurd hn hp, fun _ => ⟨by rw [zxp hq hp], rfl⟩⟩
  rw [j8 hq]
  unfold zas
  rw [if_pos (by omega)]
def zxu (b0 : Nat) (w wx : World) : Prop:=w.heap.size <= wx.heap.size /\ ∀ b,b0 <= b -> b < w.heap.size -> wx.heap[b]? = w.heap[b]?
def junk (w : World) (b : Nat) : World:={ w with heap:=w.heap.setIfInBounds b (.map #[] 0) }
theorem zef {w : World} {b b0 : Nat} (h : b < b0) : zxu b0 w (junk w b):=by
 refine ⟨by unfold junk;simp,fun k hk hl=>?_⟩
 unfold junk
 simp only
 rw [Array.getElem?_setIfInBounds_ne (by omega)]
theorem zmp {w : World} {b o : Nat} (h : b < w.heap.size) : (junk w b).cell? ⟨b,o,none⟩ = none:=by
 have e : (junk w b).heap[b]? = some (.map #[] 0):=by
  unfold junk
  simp only
  rw [Array.getElem?_setIfInBounds_self_of_lt h]
 unfold World.cell?
 simp [e]
theorem xe {w wx : World} {b0 b o : Nat} (h : zxu b0 w wx) (h1 : b0 <= b) (h2 : b < w.heap.size) : wx.cell? ⟨b,o,none⟩ = w.cell? ⟨b,o,none⟩:=World.cell?_of_block (a:=⟨b,o,none⟩) (h.2 b h1 h2)
theorem zta {w : World} {b0 : Nat} {an : Option Addr} {nn cn : Nat} {cs : List Nd} (K : ∀ wx : World,zxu b0 w wx -> NRow wx an nn cn cs) {q : Nat} (hq : q < nn) :
  ∃ b o ak nk ck,an = some ⟨b,o,none⟩ /\ ∀ wx : World,zxu b0 w wx -> wx.cell? ⟨b,o + q * 4,none⟩ = some (.int .i64 (cs.getD q default).kind) /\ wx.cell? ⟨b,o + q * 4 + 1,none⟩ = some (.int .i64 (cs.getD q default).num) /\ wx.cell? ⟨b,o + q * 4 + 2,none⟩ = some (.string (cs.getD q default).text) /\ wx.cell? ⟨b,o + q * 4 + 3,none⟩ = some (.slice ak nk ck) /\ IRow wx ak nk ck (cs.getD q default).kids:=by
 have hw:=K w ⟨Nat.le_refl _,fun _ _ _=>rfl⟩
 obtain ⟨b,o,rfl,hlb,hc⟩:=hw.some (by omega)
 obtain ⟨k1,k2,k3,ak,nk,ck,k4,k5⟩:=hc q hq
 have hb : b0 <= b:=by
  rcases Nat.lt_or_ge b b0 with h | h
  ·exfalso
   obtain ⟨b',o',e',_,hc'⟩:=(K _ (zef h)).some (by omega)
   cases e'
   obtain ⟨j1,_⟩:=hc' q hq
   rw [zmp hlb] at j1
   cases j1
  ·exact h
 refine ⟨b,o,ak,nk,ck,rfl,fun wx hx=>?_⟩
 have c0:=xe (o:=o + q * 4) hx hb hlb
 have c1:=xe (o:=o + q * 4 + 1) hx hb hlb
 have c2:=xe (o:=o + q * 4 + 2) hx hb hlb
 have c3:=xe (o:=o + q * 4 + 3) hx hb hlb
 refine ⟨c0.trans k1,c1.trans k2,c2.trans k3,c3.trans k4,?_⟩
 refine ⟨k5.len,k5.fits,k5.most,k5.nil_,k5.bd,?_⟩
 rcases k5.rd with e | ⟨b2,o2,e2,hl2,hc2⟩
 ·exact .inl e
 ·by_cases hk : (cs.getD q default).kids = []
  ·exact .inl hk
  right
  have hb2 : b0 <= b2:=by
   rcases Nat.lt_or_ge b2 b0 with h | h
   ·exfalso
    obtain ⟨b',o',e',_,hc'⟩:=(K _ (zef h)).some (by omega)
    cases e'
    obtain ⟨_,_,_,ak',nk',ck',j4,j5⟩:=hc' q hq
    have j4':=(xe (o:=o + q * 4 + 3) (zef (w:=w) h) hb hlb).symm.trans j4
    rw [k4] at j4'
    cases j4'
    rcases j5.rd with e3 | ⟨b3,o3,e3,_,hc3⟩
    ·exact hk e3
    ·rw [e2] at e3
     cases e3
     have:=hc3 0 (List.length_pos_iff.2 hk)
     rw [zmp hl2] at this
     cases this
   ·exact h
  exact ⟨b2,o2,e2,Nat.lt_of_lt_of_le hl2 hx.1,fun i hi=>(xe hx hb2 hl2).trans (hc2 i hi)⟩
end Go.Proofs.YticimejfjjmikaaGreatDoor
