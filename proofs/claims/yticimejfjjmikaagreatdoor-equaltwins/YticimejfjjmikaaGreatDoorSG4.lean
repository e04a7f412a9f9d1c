import Derived.Test.YticimejfjjmikaaGreatDoorQ7
import Derived.Test.YticimejfjjmikaaGreatDoorQ1
import Derived.Test.YticimejfjjmikaaGreatDoorG9
import Derived.Lib.MapLaws
import Derived.Lib.QuoteLoop
import Derived.Test.YticimejfjjmikaaGreatDoorW16
import Derived.Test.YticimejfjjmikaaGreatDoorX3
set_option linter.unusedVariables false
set_option linter.unusedSimpArgs false
set_option maxRecDepth 100000
namespace Go.Proofs.YticimejfjjmikaaGreatDoor
open Go.RowKit
theorem MZ.on {os : List Ob} {a0 b0 : Int} {cur : Int × Int -> Prop} {M b : Nat} {w0 w w' : World} {v : Value} {S : US} (h : MZ os a0 b0 cur M b w0 v S w) (hb : Below w.heap.size w w') : MZ os a0 b0 cur M b w0 v S w':=⟨h.mt.on hb,h.mg⟩
def zep1 (os : List Ob) (a0 b0 : Int) (cur : Int × Int -> Prop) (M b : Nat) (w0 : World) (v : Value) (S : US) (f g : List Int) (x y : Int) (e : Ending) (w' : World) : Prop :=
 ∃ bb,e = .returned (.bool bb) /\ ∃ S',MZ os a0 b0 cur M b w0 v S' w' /\ (∀ u z,S.root u = S.root z -> S'.root u = S'.root z) /\ (bb = true -> ∀ j,j < f.length -> S'.root (f.getD j 0) = S'.root (g.getD j 0)) /\ (bb = false -> ¬ jl (hpO os) x y)
section
variable {B : Nat} {v : Value} {N : Int} {os : List Ob} {F : Nat -> Prop} {a0 b0 : Int} {cur : Int × Int -> Prop} {M : Nat} {w0 : World} {S : US}
set_option maxHeartbeats 8000000 in
theorem zqe (a b : Int) (ha : U64 a) (hb : U64 b) (w : World) (h0 : HE B v N os F w0) (h : MZ os a0 b0 cur M w0.heap.size w0 v S w) {i k : Nat} (hi : yh os a = some i) (hk : yh os b = some k) (hlen : (os.getD i default).f.length = (os.getD k default).f.length)
  (hka : jl (hpO os) a b -> ∀ j,j < (os.getD i default).f.length -> jl (hpO os) ((os.getD i default).f.getD j 0) ((os.getD k default).f.getD j 0)) (hal : jl (hpO os) a0 b0 -> jl (hpO os) a b) (hMM : M <= 10000000) :
  Calls Tryz.prog 103 #[v,.int .u64 a,.int .u64 b,.func (.func 56) #[.pointer (some ⟨w0.heap.size + 2,0,none⟩)] #[]] w (zep1 os a0 b0 cur M w0.heap.size w0 v S (os.getD i default).f (os.getD k default).f a b):=by
 have hl1:=zdo (jo hi).1
 have hus:=h0.used
 have hu1:=h0.fine.uf _ (jf (jo hi).1)
 have hu2:=h0.fine.uf _ (jf (jo hk).1)
 have K1 : Hid (∀ (j : Nat) W,j <= (os.getD i default).f.length -> Below w0.heap.size w0 W -> Calls Tryz.prog 155 #[v,.int .u64 a,.int .i64 j] W fun e w'=>∃ z,e = .returned (.tuple #[.int .u64 z,.bool (decide (j < (os.getD i default).f.length))]) /\ (j < (os.getD i default).f.length -> z = (os.getD i default).f.getD j 0) /\ Below W.heap.size W w'):=fun j W hj hW=>by
  refine (zar a j ha (by unfold Z64;omega) W (h0.on hW)).mono ?_
  rintro e w' ⟨rfl,hb⟩
  by_cases e : j < (os.getD i default).f.length
  ·rw [zfd hi e,decide_eq_true e];exact ⟨_,rfl,fun _=>rfl,hb⟩
  ·rw [zia hi (by omega),decide_eq_false e];exact ⟨_,rfl,fun h=>absurd h e,hb⟩
 have K2 : Hid (∀ (j : Nat) W,j <= (os.getD k default).f.length -> Below w0.heap.size w0 W -> Calls Tryz.prog 155 #[v,.int .u64 b,.int .i64 j] W fun e w'=>∃ z,e = .returned (.tuple #[.int .u64 z,.bool (decide (j < (os.getD k default).f.length))]) /\ (j < (os.getD k default).f.length -> z = (os.getD k default).f.getD j 0) /\ Below W.heap.size W w'):=fun j W hj hW=>by
  refine (zar b j hb (by unfold Z64;omega) W (h0.on hW)).mono ?_
  rintro e w' ⟨rfl,hb⟩
  by_cases e : j < (os.getD k default).f.length
  ·rw [zfd hk e,decide_eq_true e];exact ⟨_,rfl,fun _=>rfl,hb⟩
  ·rw [zia hk (by omega),decide_eq_false e];exact ⟨_,rfl,fun h=>absurd h e,hb⟩
 have CM : Hid (∀ (S' : US) (x y : Int) (W : World),U64 x -> U64 y -> MZ os a0 b0 cur M w0.heap.size w0 v S' W -> (jl (hpO os) a0 b0 -> jl (hpO os) x y) -> Calls Tryz.prog 56 #[.pointer (some ⟨w0.heap.size + 2,0,none⟩),.int .u64 x,.int .u64 y] W (zbz1 os a0 b0 cur M w0.heap.size w0 v S' x y)):=fun S' x y W hx hy hz hh=>zkm x y hx hy W h0 hz hh hMM
 obtain ⟨gh,rfl⟩:=h0.ph.ptr
 obtain ⟨f,hf⟩ : ∃ f,f = (os.getD i default).f:=⟨_,rfl⟩
 obtain ⟨g,hg⟩ : ∃ f,f = (os.getD k default).f:=⟨_,rfl⟩
 rw [<- hf] at K1 hl1 hu1 hlen hka
 rw [<- hg] at K2 hu2 hlen hka
 rw [<- hf,<- hg]
 have HL:=hid hlen
 have HU1:=hid hu1
 have HU2:=hid hu2
 have HKA:=hid hka
 have HAL:=hid hal
 have HZ:=hid h
 obtain ⟨nf,hnf⟩ : ∃ n,n = f.length:=⟨_,rfl⟩
 rw [<- hnf] at K1 hl1 hlen
 rw [<- hlen] at K2
 have HNF:=hid hnf
 have hm1 : nf <= 4194304:=by omega
 obtain ⟨bA,hbA⟩ : ∃ b,b = w0.heap.size:=⟨_,rfl⟩
 rw [<- hbA] at K1 K2 CM HZ ⊢
 clear h h0 hi hk hf hg ha hb hnf hlen hl1 hus hu1 hu2 hka hal hbA
 go_enter Tryz.func103,Tryz.ntmps103
 go_wp2_with fail
 go_loopw [9] (fun i wr=>∃ q : Nat,q <= nf /\ i = .int .i64 q /\ Hid (∃ S',MZ os a0 b0 cur M bA w0 (.pointer (some ⟨gh,0,none⟩)) S' wr /\ (∀ u z,S.root u = S.root z -> S'.root u = S'.root z) /\ ∀ j,j < q -> S'.root (f.getD j 0) = S'.root (g.getD j 0))) (fun i _=>nf - (intOf i).toNat)
 case atStart=>exact ⟨0,Nat.zero_le _,rfl,S,HZ.out,fun _ _ e=>e,fun j hj=>by omega⟩
 case round =>
  obtain ⟨q,hq,rfl,hI⟩:=hrel
  obtain ⟨S',hz,hmo,hro⟩:=hI.out
  have HZ1:=hid hz
  have HMO:=hid hmo
  have HRO:=hid hro
  have HBR : Hid (Below bA w0 wr):=hz.mt.bel
  clear hI hz hmo hro
  have C1:=hid (K1.out q wr hq HBR.out)
  have C2 : Hid (∀ W,Below wr.heap.size wr W -> _):=fun W hW=>K2.out q W hq (HBR.out.trans (hW.mono (by have:=HZ1.out.mt.lt;omega)))
  by_cases hlt : q < nf
  ·have hltf : q < f.length := by rw [<- HNF.out]; exact hlt
   have x1u:=HU1.out _ (yd hltf)
   have x2u:=HU2.out _ (yd (l:=g) (i:=q) (by rw [<- HL.out];exact hltf))
   have hax : jl (hpO os) a0 b0 -> jl (hpO os) (f.getD q 0) (g.getD q 0):=fun e=>HKA.out (HAL.out e) q hltf
   have C3 : Hid (∀ W,Below wr.heap.size wr W -> _):=fun W hW=>CM.out S' (f.getD q 0) (g.getD q 0) W x1u x2u (HZ1.out.on hW) hax
   have hnot : Hid (¬ jl (hpO os) (f.getD q 0) (g.getD q 0) -> ¬ jl (hpO os) a b):=fun hn e=>hn (HKA.out e q hltf)
   rw [decide_eq_true hlt] at C1 C2
   have hstep : Hid (∀ S2 : US,(∀ u z,S'.root u = S'.root z -> S2.root u = S2.root z) -> S2.root (f.getD q 0) = S2.root (g.getD q 0) -> ∀ j,j < q + 1 -> S2.root (f.getD j 0) = S2.root (g.getD j 0)):=fun S2 h1 h2 j hj=>by
    by_cases e : j = q
    ·subst e;exact h2
    ·exact h1 _ _ (HRO.out j (by omega))
   obtain ⟨x1,hx1⟩ : ∃ x,x = f.getD q 0:=⟨_,rfl⟩
   obtain ⟨x2,hx2⟩ : ∃ x,x = g.getD q 0:=⟨_,rfl⟩
   rw [<- hx1] at C1 C3 hnot hstep
   rw [<- hx2] at C2 C3 hnot hstep
   clear hx1 hx2 hax x1u x2u hltf
   go_wp2_with (first
    | (go_at_call 155;(with_reducible refine C1.out.mono ?_);rintro e W1 ⟨z1,rfl,hz1,b1⟩;obtain rfl:=hz1 hlt;have HB1:=hid b1;clear b1 hz1)
    | (go_at_call 155;(with_reducible refine (C2.out W1 HB1.out).mono ?_);rintro e W2 ⟨z2,rfl,hz2,b2⟩;obtain rfl:=hz2 hlt;have HB2:=hid (HB1.out.trans (b2.mono HB1.out.size));have C4:=hid (C3.out W2 HB2.out);clear b2 hz2)
    | (go_at_call 56;(with_reducible refine C4.out.mono ?_);rintro e W3 ⟨bb,rfl,S2,m3,k3,t3,n3⟩;have HM3:=hid m3;have HK3:=hid k3;have HT3:=hid t3;have HN3:=hid n3;clear m3 k3 t3 n3))
   ·rename_i hbb
    obtain rfl : bb = false:=by simpa using hbb
    go_ret
    exact ⟨false,rfl,S2,HM3.out,fun u z e=>HK3.out u z (HMO.out u z e),fun e=>(by cases e),fun _=>hnot.out (HN3.out rfl)⟩
   ·rename_i hbb
    obtain rfl : bb = true:=by simpa using hbb
    exact ⟨⟨q + 1,by omega,by go_num,S2,HM3.out,fun u z e=>HK3.out u z (HMO.out u z e),hstep.out S2 HK3.out (HT3.out rfl)⟩,by simp [intOf] <;> omega⟩
  ·obtain rfl : nf = q := by omega
   rw [decide_eq_false hlt] at C1 C2
   go_wp2_with (first
    | (go_at_call 155;(with_reducible refine C1.out.mono ?_);rintro e W1 ⟨z1,rfl,hz1,b1⟩;have HB1:=hid b1;clear b1 hz1)
    | (go_at_call 155;(with_reducible refine (C2.out W1 HB1.out).mono ?_);rintro e W2 ⟨z2,rfl,hz2,b2⟩;have HB2:=hid (HB1.out.trans (b2.mono HB1.out.size));clear b2 hz2))
   go_ret
   exact ⟨true,rfl,S',HZ1.out.on HB2.out,HMO.out,fun _ j hj=>HRO.out j (by rw [HNF.out];exact hj),fun e=>(by cases e)⟩
end
theorem u8n {n : Nat} (h : n < 256) : (UInt8.ofNat n).toNat = n:=by rw [UInt8.toNat_ofNat'];exact Nat.mod_eq_of_lt h
theorem zok {c : Nat} (h : letB (c : Int) = true) : c <= 1114111 /\ (c < 55296 \/ 57343 < c):=by
 unfold letB at h
 simp only [Bool.and_eq_true,Bool.or_eq_true,decide_eq_true_eq] at h
 omega
theorem zca1 {c : Nat} (h : letB (c : Int) = true) (h1 : c < 128) : (Utf8.encode (c : Int)).data.toList = [UInt8.ofNat c]:=by
 have hv : Utf8.valid (c : Int) = true:=by rw [<- vp];exact h
 unfold Utf8.encode
 simp only [hv,if_true,Int.toNat_natCast]
 rw [if_pos h1]
theorem zcb1 {c : Nat} (h : letB (c : Int) = true) (h1 : 128 <= c) (h2 : c < 2048) : (Utf8.encode (c : Int)).data.toList = [UInt8.ofNat (192 + c / 64),UInt8.ofNat (128 + c % 64)]:=by
 have hv : Utf8.valid (c : Int) = true:=by rw [<- vp];exact h
 unfold Utf8.encode
 simp only [hv,if_true,Int.toNat_natCast]
 rw [if_neg (by omega),if_pos h2]
theorem zyg {c : Nat} (h : letB (c : Int) = true) (h1 : 2048 <= c) (h2 : c < 65536) : (Utf8.encode (c : Int)).data.toList = [UInt8.ofNat (224 + c / 4096),UInt8.ofNat (128 + c / 64 % 64),UInt8.ofNat (128 + c % 64)]:=by
 have hv : Utf8.valid (c : Int) = true:=by rw [<- vp];exact h
 unfold Utf8.encode
 simp only [hv,if_true,Int.toNat_natCast]
 rw [if_neg (by omega),if_neg (by omega),if_pos h2]
theorem zcc1 {c : Nat} (h : letB (c : Int) = true) (h1 : 65536 <= c) : (Utf8.encode (c : Int)).data.toList = [UInt8.ofNat (240 + c / 262144),UInt8.ofNat (128 + c / 4096 % 64),UInt8.ofNat (128 + c / 64 % 64),UInt8.ofNat (128 + c % 64)]:=by
 have hv : Utf8.valid (c : Int) = true:=by rw [<- vp];exact h
 unfold Utf8.encode
 simp only [hv,if_true,Int.toNat_natCast]
 rw [if_neg (by omega),if_neg (by omega),if_neg (by omega)]
theorem zus {c : Nat} (h : letB (c : Int) = true) (rest : List UInt8) : Lib.decodeL ((Utf8.encode (c : Int)).data.toList ++ rest) = (c,(Utf8.encode (c : Int)).data.toList.length):=by
 have hb:=zok h
 rw [Lib.decodeL_N]
 by_cases h1 : c < 128
 ·rw [zca1 h h1]
  show Lib.decodeN _ (UInt8.ofNat c).toNat _ _ _ = (c,1)
  rw [u8n (by omega)]
  unfold Lib.decodeN
  rw [if_pos h1]
 by_cases h2 : c < 2048
 ·rw [zcb1 h (by omega) h2]
  show Lib.decodeN _ (UInt8.ofNat (192 + c / 64)).toNat (UInt8.ofNat (128 + c % 64)).toNat _ _ = (c,2)
  rw [u8n (by omega),u8n (by omega)]
  unfold Lib.decodeN
  rw [if_neg (by omega),if_pos ⟨by omega,by simp,by omega⟩,if_pos (by omega)]
  congr 1;omega
 by_cases h3 : c < 65536
 ·rw [zyg h (by omega) h3]
  show Lib.decodeN _ (UInt8.ofNat (224 + c / 4096)).toNat (UInt8.ofNat (128 + c / 64 % 64)).toNat (UInt8.ofNat (128 + c % 64)).toNat _ = (c,3)
  rw [u8n (by omega),u8n (by omega),u8n (by omega)]
  unfold Lib.decodeN
  rw [if_neg (by omega),if_neg (by omega),if_pos ⟨by omega,⟨by simp,by omega⟩,by simp,by omega⟩,if_pos (by omega)]
  congr 1;omega
 ·rw [zcc1 h (by omega)]
  show Lib.decodeN _ (UInt8.ofNat (240 + c / 262144)).toNat (UInt8.ofNat (128 + c / 4096 % 64)).toNat (UInt8.ofNat (128 + c / 64 % 64)).toNat (UInt8.ofNat (128 + c % 64)).toNat = (c,4)
  rw [u8n (by omega),u8n (by omega),u8n (by omega),u8n (by omega)]
  unfold Lib.decodeN
  rw [if_neg (by omega),if_neg (by omega),if_neg (by omega),if_pos ⟨by omega,⟨by simp,by omega⟩,⟨by simp,by omega⟩,by simp,by omega⟩,if_pos (by omega)]
  congr 1;omega
theorem zmw {c : Nat} (h : letB (c : Int) = true) : 1 <= (Utf8.encode (c : Int)).data.toList.length /\ (Utf8.encode (c : Int)).data.toList.length <= 4:=by
 by_cases h1 : c < 128
 ·rw [zca1 h h1];simp
 by_cases h2 : c < 2048
 ·rw [zcb1 h (by omega) h2];simp
 by_cases h3 : c < 65536
 ·rw [zyg h (by omega) h3];simp
 ·rw [zcc1 h (by omega)];simp
theorem zeq1 {c : Nat} (h : letB (c : Int) = true) : (Utf8.encode (c : Int)).data.toList = Lib.encodeRune (c : Int):=by
 have hb:=zok h
 unfold Lib.encodeRune
 by_cases h1 : c < 128
 ·rw [zca1 h h1,Lib.encodeRuneZ_one (by omega) (by omega)];simp
 by_cases h2 : c < 2048
 ·rw [zcb1 h (by omega) h2, Lib.encodeRuneZ_two (by omega) (by omega)]
  simp only [List.map_cons,List.map_nil]
  rw [show (192 + (c : Int) / 64).toNat = 192 + c / 64 by omega,show (128 + (c : Int) % 64).toNat = 128 + c % 64 by omega]
 by_cases h3 : c < 65536
 ·rw [zyg h (by omega) h3, Lib.encodeRuneZ_three (by omega)]
  simp only [List.map_cons,List.map_nil]
  rw [show (224 + (c : Int) / 4096).toNat = 224 + c / 4096 by omega,show (128 + (c : Int) / 64 % 64).toNat = 128 + c / 64 % 64 by omega,show (128 + (c : Int) % 64).toNat = 128 + c % 64 by omega]
 ·rw [zcc1 h (by omega), Lib.encodeRuneZ_four (by omega) (by omega)]
  simp only [List.map_cons,List.map_nil]
  rw [show (240 + (c : Int) / 262144).toNat = 240 + c / 262144 by omega,show (128 + (c : Int) / 4096 % 64).toNat = 128 + c / 4096 % 64 by omega,show (128 + (c : Int) / 64 % 64).toNat = 128 + c / 64 % 64 by omega,show (128 + (c : Int) % 64).toNat = 128 + c % 64 by omega]
def fg (l : List Nat) : List UInt8:=l.flatMap (fun c : Nat=>(Utf8.encode (c : Int)).data.toList)
theorem zfh : ∀ {l : List Nat},(∀ c∈l,letB (c : Int) = true) -> Lib.validD (fg l) = true
 | [],_=>Lib.validD_nil
 | c :: l, h => by
  have hc:=h c List.mem_cons_self
  have hl:=zmw hc
  have ih:=zfh (l:=l) (fun x hx=>h x (List.mem_cons_of_mem _ hx))
  have e : fg (c :: l) = (Utf8.encode (c : Int)).data.toList ++ fg l:=rfl
  rw [e,Lib.validD_step _ (by intro e2;have:=congrArg List.length e2;simp only [List.length_append,List.length_nil] at this;omega),zus hc,if_neg,List.drop_left]
  ·exact ih
  ·rintro ⟨e1, e2⟩
   simp only at e1 e2
   subst e1
   rw [zyg hc (by omega) (by omega)] at e2
   simp at e2
theorem zqf (s : ByteArray) (f p : Nat) : Lib.runeCountFrom s (f + 1) p = if p < s.size then 1 + Lib.runeCountFrom s f (p + (Utf8.decode s p).2) else 0:=rfl
theorem zgu {s : ByteArray} : ∀ {l : List Nat} {p f : Nat},(∀ c∈l,letB (c : Int) = true) -> s.data.toList.drop p = fg l -> l.length <= f -> Lib.runeCountFrom s f p = l.length
 | [],p,f,_,e,_=>by
  refine Lib.runeCountFrom_end s f p (fun h=>?_)
  have:=congrArg List.length e
  rw [List.length_drop] at this
  have h2 : s.data.toList.length = s.size:=rfl
  simp [fg] at this
  omega
 | c :: l,p,0,_,_,h=>by simp at h
 | c :: l, p, f + 1, h, e, hf => by
  have hc:=h c List.mem_cons_self
  have hl:=zmw hc
  have e2 : fg (c :: l) = (Utf8.encode (c : Int)).data.toList ++ fg l:=rfl
  rw [e2] at e
  have h2 : s.data.toList.length = s.size:=rfl
  have hlen:=congrArg List.length e
  rw [List.length_drop,List.length_append] at hlen
  have hd : Utf8.decode s p = (c,(Utf8.encode (c : Int)).data.toList.length):=by
   rw [<- Lib.decodeL_drop,e,zus hc]
  rw [zqf,if_pos (by omega),hd]
  have ih:=zgu (s:=s) (l:=l) (p:=p + (Utf8.encode (c : Int)).data.toList.length) (f:=f) (fun x hx=>h x (List.mem_cons_of_mem _ hx)) (by
   rw [<- List.drop_drop,e,List.drop_left]) (by simpa using hf)
  rw [ih,List.length_cons];omega
theorem zkn : ∀ {l : List Nat},(∀ c∈l,letB (c : Int) = true) -> l.length <= (fg l).length
 | [],_=>Nat.le_refl _
 | c :: l,h=>by
  have hl:=zmw (h c List.mem_cons_self)
  have ih:=zkn (l:=l) (fun x hx=>h x (List.mem_cons_of_mem _ hx))
  have e2 : fg (c :: l) = (Utf8.encode (c : Int)).data.toList ++ fg l:=rfl
  rw [e2,List.length_append,List.length_cons];omega
theorem zfi {s : ByteArray} {l : List Nat} (h : ∀ c∈l,letB (c : Int) = true) (e : s.data.toList = fg l) : Lib.runeCount s = l.length :=
 zgu (s:=s) (p:=0) h (by rw [List.drop_zero];exact e) (by
  have h2 : s.data.toList.length = s.size:=rfl
  have:=zkn h
  rw [<- e] at this;omega)
theorem zgv {s : ByteArray} : ∀ {f p : Nat},Lib.validD (s.data.toList.drop p) = true -> s.size <= p + f ->
  ∃ l : List Nat,ltF s f p = l.map (fun c : Nat=>(c : Int)) /\ (∀ c∈l,letB (c : Int) = true) /\ s.data.toList.drop p = fg l
 | 0, p, _, hs => ⟨[], rfl, fun c hc => (by cases hc), (by
   have h2 : s.data.toList.length = s.size:=rfl
   rw [List.drop_eq_nil_of_le (by omega)];rfl)⟩
 | f + 1, p, hv, hs => by
  have h2 : s.data.toList.length = s.size:=rfl
  by_cases hp : p < s.size
  ·have hne : s.data.toList.drop p ≠ [] := by
    intro e;have:=congrArg List.length e;rw [List.length_drop] at this;simp only [List.length_nil] at this;omega
   rw [Lib.validD_step _ hne,Lib.decodeL_drop] at hv
   by_cases hb : (Utf8.decode s p).1 = 65533 /\ (Utf8.decode s p).2 = 1
   ·rw [if_pos hb] at hv;cases hv
   ·rw [if_neg hb] at hv
    have hne2 : ¬ Utf8.decode s p = (65533,1):=fun e=>hb (by rw [e];exact ⟨rfl,rfl⟩)
    have er : yp s p = Utf8.decode s p:=by unfold yp;rw [if_neg hne2]
    have hw:=fx s p
    rw [List.drop_drop] at hv
    obtain ⟨l,e1,e2,e3⟩:=zgv (s:=s) (f:=f) (p:=p + (Utf8.decode s p).2) hv (by omega)
    have hlet : letB ((Utf8.decode s p).1 : Int) = true:=by
     have hd : Utf8.decode s p = Lib.decodeL (s.data.toList.drop p):=(Lib.decodeL_drop s p).symm
     have:=Lib.decodeN_valid (s.data.toList.drop p).length ((s.data.toList.drop p).getD 0 0).toNat ((s.data.toList.drop p).getD 1 0).toNat ((s.data.toList.drop p).getD 2 0).toNat ((s.data.toList.drop p).getD 3 0).toNat (UInt8.toNat_lt _)
     rw [<- Lib.decodeL_N,<- hd] at this
     unfold letB
     simp only [Bool.and_eq_true,Bool.or_eq_true,decide_eq_true_eq]
     omega
    refine ⟨(Utf8.decode s p).1 :: l,?_,?_,?_⟩
    ·unfold ltF
     rw [if_pos hp,er,show max 1 (Utf8.decode s p).2 = (Utf8.decode s p).2 by omega,e1];rfl
    ·intro c hc
     rcases List.mem_cons.1 hc with rfl | hc
     ·exact hlet
     ·exact e2 c hc
    ·have e4 : fg ((Utf8.decode s p).1 :: l) = (Utf8.encode ((Utf8.decode s p).1 : Int)).data.toList ++ fg l := rfl
     rw [e4,<- e3]
     have h5:=Lib.encode_decode (s.data.toList.drop p) hne (by rw [Lib.decodeL_drop];exact hb)
     rw [Lib.decodeL_drop] at h5
     have h6 : (Utf8.encode ((Utf8.decode s p).1 : Int)).data.toList = Lib.encodeRune ((Utf8.decode s p).1 : Int):=zeq1 hlet
     rw [h6,h5,<- List.drop_drop,List.take_append_drop]
  ·refine ⟨[], ?_, fun c hc => (by cases hc), ?_⟩
   ·unfold ltF;rw [if_neg hp];rfl
   ·rw [List.drop_eq_nil_of_le (by omega)];rfl
theorem zut {d : Nat} (h : d < 36) : dgt (chr d) = d:=by
 unfold dgt chr
 by_cases h1 : d < 10
 ·rw [if_pos h1,if_pos (by omega)];omega
 ·rw [if_neg h1,if_neg (by omega),if_pos (by omega)];omega
theorem zal1 (radix : Nat) : ∀ {D : List Nat},(∀ x∈D,x < 36) -> hv radix ((D.map chr).reverse) = val radix D
 | [],_=>rfl
 | d :: D,h=>by
  rw [List.map_cons,List.reverse_cons,zsg,zal1 radix (fun x hx=>h x (by simp [hx])),zut (h d (by simp)),qz,Nat.mul_comm]
  omega
def body (D : List Nat) : List Nat:=if D = [] then [48] else (D.map chr).reverse
theorem zyh {radix : Nat} {D : List Nat} (h : Dg radix D) (hr : radix <= 36) : hv radix (body D) = val radix D:=by
 unfold body
 by_cases hD : D = []
 ·subst hD;simp [hv,dgt,val]
 ·rw [if_neg hD];exact zal1 radix (fun x hx=>by have:=h x hx;omega)
theorem zfj {radix : Nat} {D : List Nat} (h : Dg radix D) (h2 : 2 <= radix) (hr : radix <= 36) : ∀ c∈body D,dgt c < radix:=by
 unfold body
 by_cases hD : D = []
 ·subst hD
  intro c hc
  simp at hc
  subst hc
  simp [dgt];omega
 ·rw [if_neg hD]
  intro c hc
  rw [List.mem_reverse] at hc
  obtain ⟨d,hd,rfl⟩:=List.mem_map.1 hc
  have:=h d hd
  rw [zut (by omega)];exact this
theorem zcd1 (D : List Nat) : body D ≠ []:=by
 unfold body
 by_cases hD : D = []
 ·simp [hD]
 ·simp [hD]
theorem zce1 {l : List Nat} {c : Nat} {r : List Nat} (h : l = c :: r) (hc : c = 43 \/ c = 45) : cutS l = (decide (c = 45),r):=by
 subst h;simp [cutS,hc]
theorem zuu {radix : Nat} {l : List Nat} (h : ∀ c∈l,dgt c < radix) (hr : radix <= 36) : cutS l = (false,l):=by
 cases l with
 | nil=>rfl
 | cons c r =>
  have hc:=h c (by simp)
  have : ¬ (c = 43 \/ c = 45):=by
   rintro (rfl | rfl) <;> simp [dgt] at hc <;> omega
  simp [cutS,this]
theorem zqg {neg : Bool} {l : List Nat} (hd : Dg B32 l) (hg : qa neg l = true) : ¬ Big (val B32 l):=by
 unfold Big
 have h1:=fm hd
 have h2 : B32 ^ l.length <= B32 ^ 40:=Nat.pow_le_pow_right (by decide) (zdz hg)
 omega
theorem zyi {v : Nat} (h : digs v v = []) : v = 0:=by
 have:=(zcr v v (Nat.le_refl _)).2.2.2
 exact Classical.byContradiction (fun e=>this e h)
theorem zmx (neg : Bool) (v : Nat) (hn : neg = true -> v ≠ 0) : qx neg v = (if neg then [45] else []) ++ body (digs v v):=by
 unfold qx body
 by_cases e : digs v v = []
 ·rw [if_pos e, if_pos e]
  cases neg
  ·rfl
  ·exact absurd (zyi e) (hn rfl)
 ·rw [if_neg e,if_neg e]
theorem zqh (neg : Bool) (v : Nat) (hn : neg = true -> v ≠ 0) : cutS (qx neg v) = (neg,body (digs v v)):=by
 have hd:=(zcr v v (Nat.le_refl _)).1
 rw [zmx neg v hn]
 cases neg
 ·exact zuu (radix:=10) (zfj hd (by omega) (by omega)) (by omega)
 ·exact zce1 (c:=45) rfl (.inr rfl)
theorem zuv (neg : Bool) (v : Nat) : ∀ x∈qx neg v,x < 256:=by
 have hd:=(zcr v v (Nat.le_refl _)).1
 intro x hx
 unfold qx at hx
 split at hx
 ·rw [List.mem_singleton.1 hx];omega
 ·rcases List.mem_append.1 hx with hx | hx
  ·cases neg
   ·cases hx
   ·rw [List.mem_singleton.1 hx];omega
  ·rw [List.mem_reverse] at hx
   obtain ⟨d,hd',rfl⟩:=List.mem_map.1 hx
   exact zsi (Nat.lt_of_lt_of_le (hd d hd') (by omega))
theorem zgw {neg : Bool} {v : Nat} (hn : neg = true -> v ≠ 0) (hv40 : v < B32 ^ 40) : ya (jr (qx neg v)) = true:=by
 obtain ⟨hd,ht,hval,_⟩:=zcr v v (Nat.le_refl _)
 have h10 : ∀ c∈body (digs v v),dgt c < 10:=zfj hd (by omega) (by omega)
 have hbv : hv 10 (body (digs v v)) = v:=by rw [zyh hd (by omega),hval]
 unfold ya
 rw [zkb (zuv neg v),zqh neg v hn]
 simp only
 rw [hbv]
 have e1 : jp 10 (body (digs v v)) = true:=by
  have:=zam (rx:=10) (l:=body (digs v v)) (List.length_pos_iff.2 (zcd1 _)) (fun j hj=>h10 _ (by
   rw [List.getD_eq_getElem?_getD,List.getElem?_eq_getElem hj];exact List.getElem_mem hj))
  exact this
 have e2 : (neg && decide (v ≠ 0)) = neg:=by
  cases neg
  ·rfl
  ·rw [decide_eq_true (hn rfl)];rfl
 rw [e1,e2,decide_eq_true hv40,decide_eq_true rfl];rfl
theorem zam1 {x : Int} (h : nK x ≠ 0) : zo (nK x) (nN x) (ofR x).2.2 = true:=by
 unfold nK nN at *
 unfold ofR at *
 split
 ·assumption
 ·rename_i hr
  rw [if_neg hr] at h
  exact absurd rfl h
theorem zuw {x : Int} (h : nK x = 4) : letB (nN x) = true:=by
 have:=zam1 (x:=x) (by omega)
 rw [h] at this
 have e : ltrB (nN x) = true:=by
  unfold zo at this
  simp only [show ¬ ((4 : Int) = 1) by decide,show ¬ ((4 : Int) = 2) by decide,show ¬ ((4 : Int) = 3) by decide,if_false,if_true,Bool.and_eq_true] at this
  exact this.2
 exact e
theorem zcf1 {x : Int} (h : nK x = 1) : fixB (nN x) = true:=by
 have:=zam1 (x:=x) (by omega)
 rw [h] at this
 exact this
theorem zer1 {z : Int} (h : fixB z = true) : z.natAbs < B32 ^ 40:=by
 unfold fixB at h
 rw [Bool.and_eq_true,decide_eq_true_eq,decide_eq_true_eq] at h
 have h1 : z.natAbs < B32 ^ 2:=by
  have : B32 ^ 2 = 18446744073709551616:=by decide
  omega
 exact Nat.lt_of_lt_of_le h1 (Nat.pow_le_pow_right (by decide) (by omega))
theorem zes1 {z : Int} : decide (z < 0) = true -> z.natAbs ≠ 0:=fun h=>by have:=of_decide_eq_true h;omega
theorem vh {d : Nd} (h1 : 1 <= d.kind /\ d.kind <= 17) (h2 : numB d.kind d.num = true) (h3 : qp d.kind d.text = true) (h4 : qk d.kind d.kids.length = true) : okD d = true:=by
 unfold okD
 rw [decide_eq_true h1.1,decide_eq_true h1.2,h2,h3,h4];rfl
theorem xp : okD vd = true:=vh (by unfold vd;simp) rfl rfl rfl
theorem zcz {k : Int} (h : k = 1 \/ k = 10 \/ k = 12 \/ k = 14 \/ k = 17) : okD ⟨k,0,ByteArray.empty,[]⟩ = true:=by
 rcases h with rfl | rfl | rfl | rfl | rfl <;> exact vh (by simp) rfl (by first | rfl | decide) rfl
theorem zux {f : List Int} (h : f.all lrB = true) : ∃ l : List Nat,l.length = f.length /\ (∀ c∈l,letB (c : Int) = true) /\ (jr (lrT f)).data.toList = fg l:=by
 have hall : ∀ x∈f,letB (nN x) = true:=fun x hx=>zuw (by
  have:=List.all_eq_true.1 h x hx
  unfold lrB at this
  exact of_decide_eq_true this)
 have hnn : ∀ x∈f,((nN x).toNat : Int) = nN x:=fun x hx=>by
  have:=hall x hx
  unfold letB at this
  simp only [Bool.and_eq_true,decide_eq_true_eq] at this
  omega
 refine ⟨f.map (fun x=>(nN x).toNat),by rw [List.length_map],fun c hc=>?_,?_⟩
 ·obtain ⟨x, hx, rfl⟩ := List.mem_map.1 hc
  rw [hnn x hx];exact hall x hx
 ·have e1 : bs (jr (lrT f)) = lrT f := zkb (fun y hy => by
   unfold lrT at hy
   obtain ⟨x,_,hx⟩:=List.mem_flatMap.1 hy
   exact zbm1 _ y hx)
  have e2 : (fg (f.map (fun x=>(nN x).toNat))).map UInt8.toNat = lrT f:=by
   unfold fg lrT bs
   rw [List.flatMap_map,List.map_flatMap]
   rw [List.flatMap_def,List.flatMap_def]
   refine congrArg List.flatten (List.map_congr_left (fun x hx=>?_))
   show ((Utf8.encode (((nN x).toNat : Nat) : Int)).data.toList).map UInt8.toNat = ((Utf8.encode (nN x)).data.toList).map UInt8.toNat
   rw [hnn x hx]
  have e3 : (jr (lrT f)).data.toList.map UInt8.toNat = (fg (f.map (fun x=>(nN x).toNat))).map UInt8.toNat:=e1.trans e2.symm
  exact List.map_inj_right (fun a b e=>UInt8.toNat_inj.1 e) |>.1 e3
theorem zuy (os : List Ob) (nm : List ByteArray) (x : Int) : okD (zpz os nm x) = true:=by
 have hsym : ∀ y,symB nm y = true -> qp 6 (symT nm y) = true:=fun y h=>by
  unfold symB at h
  rw [Bool.and_eq_true,Bool.and_eq_true] at h
  exact h.2.2
 unfold zpz
 split
 ·rename_i k hk
  generalize (os.getD k default).kind = kd
  generalize (os.getD k default).f = f
  by_cases k1 : kd = 1
  ·subst k1
   rw [zeg1]
   split
   ·rename_i h;exact vh (by simp) rfl rfl (by show qk 7 f.length = true;rw [zao _ (.inl rfl)];exact decide_eq_true h)
   ·exact xp
  by_cases k2 : kd = 2
  ·subst k2
   rw [zeh1]
   split
   ·rename_i h;exact vh (by simp) rfl rfl (by show qk 8 f.length = true;rw [zhq];exact decide_eq_true h)
   ·exact xp
  by_cases k3 : kd = 3
  ·subst k3
   rw [zei1]
   split
   ·rename_i h
    rw [Bool.and_eq_true,decide_eq_true_eq] at h
    obtain ⟨l,hl,hlet,hsp⟩:=zux h.1
    refine vh (by simp) rfl ?_ rfl
    show qp 5 (jr (lrT f)) = true
    rw [zhu,hsp,zfh hlet,zfi hlet hsp,hl,decide_eq_true h.2];rfl
   ·exact xp
  by_cases k4 : kd = 4
  ·subst k4
   rw [zej1]
   split
   ·rename_i h
    rw [Bool.and_eq_true,decide_eq_true_eq] at h
    refine vh (by simp) rfl ?_ rfl
    show qp 9 (jr (byT f)) = true
    rw [zly]
    have : (jr (byT f)).size = f.length:=by
     show ((byT f).map UInt8.ofNat).toArray.size = f.length
     simp [byT]
    rw [this];exact decide_eq_true h.2
   ·exact xp
  by_cases k5 : kd = 5
  ·subst k5
   rw [zek1]
   split
   ·rename_i h
    refine vh (by simp) rfl ?_ rfl
    show qp 3 _ = true
    rw [zht]
    unfold bigB at h
    simp only [Bool.and_eq_true] at h
    obtain ⟨h1,h2,h3,h4,h5⟩:=h
    have hdg : Dg B32 (js f):=fun y hy=>by
     unfold js at hy
     obtain ⟨z,hz,rfl⟩:=List.mem_map.1 hy
     have:=List.all_eq_true.1 h2 z (List.mem_of_mem_drop hz)
     unfold xd at this
     simp only [Bool.and_eq_true,decide_eq_true_eq] at this
     show (nN z).toNat < B32
     unfold B32;omega
    have hb:=zqg hdg h4
    refine zgw (fun hn=>?_) (by unfold Big at hb;omega)
    have h0 : js f ≠ []:=fun e=>by have:=ziy h4 (by rw [e];rfl);rw [hn] at this;cases this
    exact (xi h4).ne_zero (B:=B32) (by decide) h0
   ·exact xp
  by_cases k12 : kd = 12
  ·subst k12
   rw [zbo1]
   split
   ·rename_i h
    unfold zbn1 at h
    simp only [Bool.and_eq_true,decide_eq_true_eq] at h
    refine vh (by simp) ?_ rfl ?_
    ·show numB 13 _ = true
     rw [zlw,decide_eq_true h.2.2.1,decide_eq_true h.2.2.2];rfl
    ·show qk 13 (f.drop 1).length = true
     rw [zao _ (.inr rfl),List.length_drop,h.1];rfl
   ·exact xp
  by_cases k14 : kd = 14
  ·subst k14
   rw [zbp1]
   split
   ·rename_i h
    refine vh (by simp) rfl ?_ (zap _ (.inl rfl))
    show qp 15 (recT os nm (f.getD 0 0)) = true
    rw [Bool.and_eq_true] at h
    have h2:=h.2
    unfold recB at h2
    unfold recT
    split at h2
    ·rename_i k' hk'
     rw [Bool.and_eq_true,Bool.and_eq_true] at h2
     have:=h2.2.2
     unfold namB at this
     rw [Bool.and_eq_true,Bool.and_eq_true] at this
     exact this.2.2
    ·cases h2
   ·exact xp
  rw [zel1 k1 k2 k3 k4 k5 k12 k14]
  split
  ·exact zcz (by omega)
  split
  ·exact zcz (by omega)
  split
  ·exact vh (by simp) rfl rfl (zap _ (.inr rfl))
  split
  ·exact vh (by simp) rfl (by show qp 15 zmn = true;rw [zem _ (.inr rfl)];decide) rfl
  split
  ·exact vh (by simp) rfl (by show qp 15 ztt = true;rw [zem _ (.inr rfl)];decide) rfl
  split
  ·exact zcz (by omega)
  ·exact xp
 ·unfold zag1
  split
  ·rename_i h
   refine vh (by simp) rfl ?_ rfl
   show qp 3 _ = true
   rw [zht]
   exact zgw zes1 (zer1 (zcf1 h))
  split
  ·split
   ·exact zcz (by omega)
   split
   ·rename_i h
    refine vh (by simp) ?_ rfl rfl
    show numB 2 (nN x - 1) = true
    rw [znp]
    rcases h with h | h <;> rw [h] <;> rfl
   split
   ·exact zcz (by omega)
   ·exact xp
  split
  ·rename_i h
   refine vh (by simp) ?_ rfl rfl
   show numB 4 (nN x) = true
   rw [znq];exact zuw h
  split
  ·rename_i h
   exact vh (by simp) rfl (hsym x h) rfl
  split
  ·exact zcz (by omega)
  ·exact xp
end Go.Proofs.YticimejfjjmikaaGreatDoor
