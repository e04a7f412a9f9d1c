import Derived.Test.YticimejfjjmikaaGreatDoorQ7
import Derived.Test.YticimejfjjmikaaGreatDoorQ1
import Derived.Test.YticimejfjjmikaaGreatDoorG9
import Derived.Lib.MapLaws
import Derived.Lib.QuoteLoop
import Derived.Test.YticimejfjjmikaaGreatDoorW16
import Derived.Test.YticimejfjjmikaaGreatDoorX3
set_option linter.unusedVariables false
set_option linter.unusedSimpArgs false
set_option maxRecDepth 100000
namespace Go.Proofs.YticimejfjjmikaaGreatDoor
open Go.RowKit
theorem MZ.on {os : List Ob} {a0 b0 : Int} {cur : Int × Int -> Prop} {M b : Nat} {w0 w w' : World} {v : Value} {S : US} (h : MZ os a0 b0 cur M b w0 v S w) (hb : Below w.heap.size w w') : MZ os a0 b0 cur M b w0 v S w':=⟨h.mt.on hb,h.mg⟩
def AfEnd (os : List Ob) (a0 b0 : Int) (cur : Int × Int -> Prop) (M b : Nat) (w0 : World) (v : Value) (S : US) (f g : List Int) (x y : Int) (e : Ending) (w' : World) : Prop :=
 ∃ bb,e = .returned (.bool bb) /\ ∃ S',MZ os a0 b0 cur M b w0 v S' w' /\ (∀ u z,S.root u = S.root z -> S'.root u = S'.root z) /\ (bb = true -> ∀ j,j < f.length -> S'.root (f.getD j 0) = S'.root (g.getD j 0)) /\ (bb = false -> ¬ Alike (hpO os) x y)
section
variable {B : Nat} {v : Value} {N : Int} {os : List Ob} {F : Nat -> Prop} {a0 b0 : Int} {cur : Int × Int -> Prop} {M : Nat} {w0 : World} {S : US}
set_option maxHeartbeats 8000000 in
theorem emeets_any (a b : Int) (ha : U64 a) (hb : U64 b) (w : World) (h0 : HE B v N os F w0) (h : MZ os a0 b0 cur M w0.heap.size w0 v S w) {i k : Nat} (hi : findM os a = some i) (hk : findM os b = some k) (hlen : (os.getD i default).f.length = (os.getD k default).f.length)
  (hka : Alike (hpO os) a b -> ∀ j,j < (os.getD i default).f.length -> Alike (hpO os) ((os.getD i default).f.getD j 0) ((os.getD k default).f.getD j 0)) (hal : Alike (hpO os) a0 b0 -> Alike (hpO os) a b) (hMM : M <= 10000000) :
  Calls Tryz.prog 103 #[v,.int .u64 a,.int .u64 b,.func (.func 56) #[.pointer (some ⟨w0.heap.size + 2,0,none⟩)] #[]] w (AfEnd os a0 b0 cur M w0.heap.size w0 v S (os.getD i default).f (os.getD k default).f a b):=by
 have hl1:=at_lt (findM_lt hi).1
 have hus:=h0.used
 have hu1:=h0.fine.uf _ (getD_in_os (findM_lt hi).1)
 have hu2:=h0.fine.uf _ (getD_in_os (findM_lt hk).1)
 have K1 : Hid (∀ (j : Nat) W,j <= (os.getD i default).f.length -> Below w0.heap.size w0 W -> Calls Tryz.prog 155 #[v,.int .u64 a,.int .i64 j] W fun e w'=>∃ z,e = .returned (.tuple #[.int .u64 z,.bool (decide (j < (os.getD i default).f.length))]) /\ (j < (os.getD i default).f.length -> z = (os.getD i default).f.getD j 0) /\ Below W.heap.size W w'):=fun j W hj hW=>by
  refine (efield_any a j ha (by unfold Z64;omega) W (h0.on hW)).mono ?_
  rintro e w' ⟨rfl,hb⟩
  by_cases e : j < (os.getD i default).f.length
  ·rw [gete_at hi e,decide_eq_true e];exact ⟨_,rfl,fun _=>rfl,hb⟩
  ·rw [get_out hi (by omega),decide_eq_false e];exact ⟨_,rfl,fun h=>absurd h e,hb⟩
 have K2 : Hid (∀ (j : Nat) W,j <= (os.getD k default).f.length -> Below w0.heap.size w0 W -> Calls Tryz.prog 155 #[v,.int .u64 b,.int .i64 j] W fun e w'=>∃ z,e = .returned (.tuple #[.int .u64 z,.bool (decide (j < (os.getD k default).f.length))]) /\ (j < (os.getD k default).f.length -> z = (os.getD k default).f.getD j 0) /\ Below W.heap.size W w'):=fun j W hj hW=>by
  refine (efield_any b j hb (by unfold Z64;omega) W (h0.on hW)).mono ?_
  rintro e w' ⟨rfl,hb⟩
  by_cases e : j < (os.getD k default).f.length
  ·rw [gete_at hk e,decide_eq_true e];exact ⟨_,rfl,fun _=>rfl,hb⟩
  ·rw [get_out hk (by omega),decide_eq_false e];exact ⟨_,rfl,fun h=>absurd h e,hb⟩
 have CM : Hid (∀ (S' : US) (x y : Int) (W : World),U64 x -> U64 y -> MZ os a0 b0 cur M w0.heap.size w0 v S' W -> (Alike (hpO os) a0 b0 -> Alike (hpO os) x y) -> Calls Tryz.prog 56 #[.pointer (some ⟨w0.heap.size + 2,0,none⟩),.int .u64 x,.int .u64 y] W (MeEnd os a0 b0 cur M w0.heap.size w0 v S' x y)):=fun S' x y W hx hy hz hh=>emeet_any x y hx hy W h0 hz hh hMM
 obtain ⟨gh,rfl⟩:=h0.ph.ptr
 obtain ⟨f,hf⟩ : ∃ f,f = (os.getD i default).f:=⟨_,rfl⟩
 obtain ⟨g,hg⟩ : ∃ f,f = (os.getD k default).f:=⟨_,rfl⟩
 rw [<- hf] at K1 hl1 hu1 hlen hka
 rw [<- hg] at K2 hu2 hlen hka
 rw [<- hf,<- hg]
 have HL:=hid hlen
 have HU1:=hid hu1
 have HU2:=hid hu2
 have HKA:=hid hka
 have HAL:=hid hal
 have HZ:=hid h
 obtain ⟨nf,hnf⟩ : ∃ n,n = f.length:=⟨_,rfl⟩
 rw [<- hnf] at K1 hl1 hlen
 rw [<- hlen] at K2
 have HNF:=hid hnf
 have hm1 : nf <= 4194304:=by omega
 obtain ⟨bA,hbA⟩ : ∃ b,b = w0.heap.size:=⟨_,rfl⟩
 rw [<- hbA] at K1 K2 CM HZ ⊢
 clear h h0 hi hk hf hg ha hb hnf hlen hl1 hus hu1 hu2 hka hal hbA
 go_enter Tryz.func103,Tryz.ntmps103
 go_wp2_with fail
 go_loopw [9] (fun i wr=>∃ q : Nat,q <= nf /\ i = .int .i64 q /\ Hid (∃ S',MZ os a0 b0 cur M bA w0 (.pointer (some ⟨gh,0,none⟩)) S' wr /\ (∀ u z,S.root u = S.root z -> S'.root u = S'.root z) /\ ∀ j,j < q -> S'.root (f.getD j 0) = S'.root (g.getD j 0))) (fun i _=>nf - (intOf i).toNat)
 case atStart=>exact ⟨0,Nat.zero_le _,rfl,S,HZ.out,fun _ _ e=>e,fun j hj=>by omega⟩
 case round =>
  obtain ⟨q,hq,rfl,hI⟩:=hrel
  obtain ⟨S',hz,hmo,hro⟩:=hI.out
  have HZ1:=hid hz
  have HMO:=hid hmo
  have HRO:=hid hro
  have HBR : Hid (Below bA w0 wr):=hz.mt.bel
  clear hI hz hmo hro
  have C1:=hid (K1.out q wr hq HBR.out)
  have C2 : Hid (∀ W,Below wr.heap.size wr W -> _):=fun W hW=>K2.out q W hq (HBR.out.trans (hW.mono (by have:=HZ1.out.mt.lt;omega)))
  by_cases hlt : q < nf
  ·have hltf : q < f.length := by rw [<- HNF.out]; exact hlt
   have x1u:=HU1.out _ (getD_in_f hltf)
   have x2u:=HU2.out _ (getD_in_f (l:=g) (i:=q) (by rw [<- HL.out];exact hltf))
   have hax : Alike (hpO os) a0 b0 -> Alike (hpO os) (f.getD q 0) (g.getD q 0):=fun e=>HKA.out (HAL.out e) q hltf
   have C3 : Hid (∀ W,Below wr.heap.size wr W -> _):=fun W hW=>CM.out S' (f.getD q 0) (g.getD q 0) W x1u x2u (HZ1.out.on hW) hax
   have hnot : Hid (¬ Alike (hpO os) (f.getD q 0) (g.getD q 0) -> ¬ Alike (hpO os) a b):=fun hn e=>hn (HKA.out e q hltf)
   rw [decide_eq_true hlt] at C1 C2
   have hstep : Hid (∀ S2 : US,(∀ u z,S'.root u = S'.root z -> S2.root u = S2.root z) -> S2.root (f.getD q 0) = S2.root (g.getD q 0) -> ∀ j,j < q + 1 -> S2.root (f.getD j 0) = S2.root (g.getD j 0)):=fun S2 h1 h2 j hj=>by
    by_cases e : j = q
    ·subst e;exact h2
    ·exact h1 _ _ (HRO.out j (by omega))
   obtain ⟨x1,hx1⟩ : ∃ x,x = f.getD q 0:=⟨_,rfl⟩
   obtain ⟨x2,hx2⟩ : ∃ x,x = g.getD q 0:=⟨_,rfl⟩
   rw [<- hx1] at C1 C3 hnot hstep
   rw [<- hx2] at C2 C3 hnot hstep
   clear hx1 hx2 hax x1u x2u hltf
   go_wp2_with (first
    | (go_at_call 155;(with_reducible refine C1.out.mono ?_);rintro e W1 ⟨z1,rfl,hz1,b1⟩;obtain rfl:=hz1 hlt;have HB1:=hid b1;clear b1 hz1)
    | (go_at_call 155;(with_reducible refine (C2.out W1 HB1.out).mono ?_);rintro e W2 ⟨z2,rfl,hz2,b2⟩;obtain rfl:=hz2 hlt;have HB2:=hid (HB1.out.trans (b2.mono HB1.out.size));have C4:=hid (C3.out W2 HB2.out);clear b2 hz2)
    | (go_at_call 56;(with_reducible refine C4.out.mono ?_);rintro e W3 ⟨bb,rfl,S2,m3,k3,t3,n3⟩;have HM3:=hid m3;have HK3:=hid k3;have HT3:=hid t3;have HN3:=hid n3;clear m3 k3 t3 n3))
   ·rename_i hbb
    obtain rfl : bb = false:=by simpa using hbb
    go_ret
    exact ⟨false,rfl,S2,HM3.out,fun u z e=>HK3.out u z (HMO.out u z e),fun e=>(by cases e),fun _=>hnot.out (HN3.out rfl)⟩
   ·rename_i hbb
    obtain rfl : bb = true:=by simpa using hbb
    exact ⟨⟨q + 1,by omega,by go_num,S2,HM3.out,fun u z e=>HK3.out u z (HMO.out u z e),hstep.out S2 HK3.out (HT3.out rfl)⟩,by simp [intOf] <;> omega⟩
  ·obtain rfl : nf = q := by omega
   rw [decide_eq_false hlt] at C1 C2
   go_wp2_with (first
    | (go_at_call 155;(with_reducible refine C1.out.mono ?_);rintro e W1 ⟨z1,rfl,hz1,b1⟩;have HB1:=hid b1;clear b1 hz1)
    | (go_at_call 155;(with_reducible refine (C2.out W1 HB1.out).mono ?_);rintro e W2 ⟨z2,rfl,hz2,b2⟩;have HB2:=hid (HB1.out.trans (b2.mono HB1.out.size));clear b2 hz2))
   go_ret
   exact ⟨true,rfl,S',HZ1.out.on HB2.out,HMO.out,fun _ j hj=>HRO.out j (by rw [HNF.out];exact hj),fun e=>(by cases e)⟩
end
theorem u8n {n : Nat} (h : n < 256) : (UInt8.ofNat n).toNat = n:=by rw [UInt8.toNat_ofNat'];exact Nat.mod_eq_of_lt h
theorem letB_rng {c : Nat} (h : letB (c : Int) = true) : c <= 1114111 /\ (c < 55296 \/ 57343 < c):=by
 unfold letB at h
 simp only [Bool.and_eq_true,Bool.or_eq_true,decide_eq_true_eq] at h
 omega
theorem enc_1 {c : Nat} (h : letB (c : Int) = true) (h1 : c < 128) : (Utf8.encode (c : Int)).data.toList = [UInt8.ofNat c]:=by
 have hv : Utf8.valid (c : Int) = true:=by rw [<- letB_valid];exact h
 unfold Utf8.encode
 simp only [hv,if_true,Int.toNat_natCast]
 rw [if_pos h1]
theorem enc_2 {c : Nat} (h : letB (c : Int) = true) (h1 : 128 <= c) (h2 : c < 2048) : (Utf8.encode (c : Int)).data.toList = [UInt8.ofNat (192 + c / 64),UInt8.ofNat (128 + c % 64)]:=by
 have hv : Utf8.valid (c : Int) = true:=by rw [<- letB_valid];exact h
 unfold Utf8.encode
 simp only [hv,if_true,Int.toNat_natCast]
 rw [if_neg (by omega),if_pos h2]
theorem enc_3 {c : Nat} (h : letB (c : Int) = true) (h1 : 2048 <= c) (h2 : c < 65536) : (Utf8.encode (c : Int)).data.toList = [UInt8.ofNat (224 + c / 4096),UInt8.ofNat (128 + c / 64 % 64),UInt8.ofNat (128 + c % 64)]:=by
 have hv : Utf8.valid (c : Int) = true:=by rw [<- letB_valid];exact h
 unfold Utf8.encode
 simp only [hv,if_true,Int.toNat_natCast]
 rw [if_neg (by omega),if_neg (by omega),if_pos h2]
theorem enc_4 {c : Nat} (h : letB (c : Int) = true) (h1 : 65536 <= c) : (Utf8.encode (c : Int)).data.toList = [UInt8.ofNat (240 + c / 262144),UInt8.ofNat (128 + c / 4096 % 64),UInt8.ofNat (128 + c / 64 % 64),UInt8.ofNat (128 + c % 64)]:=by
 have hv : Utf8.valid (c : Int) = true:=by rw [<- letB_valid];exact h
 unfold Utf8.encode
 simp only [hv,if_true,Int.toNat_natCast]
 rw [if_neg (by omega),if_neg (by omega),if_neg (by omega)]
theorem dec_enc {c : Nat} (h : letB (c : Int) = true) (rest : List UInt8) : Lib.decodeL ((Utf8.encode (c : Int)).data.toList ++ rest) = (c,(Utf8.encode (c : Int)).data.toList.length):=by
 have hb:=letB_rng h
 rw [Lib.decodeL_N]
 by_cases h1 : c < 128
 ·rw [enc_1 h h1]
  show Lib.decodeN _ (UInt8.ofNat c).toNat _ _ _ = (c,1)
  rw [u8n (by omega)]
  unfold Lib.decodeN
  rw [if_pos h1]
 by_cases h2 : c < 2048
 ·rw [enc_2 h (by omega) h2]
  show Lib.decodeN _ (UInt8.ofNat (192 + c / 64)).toNat (UInt8.ofNat (128 + c % 64)).toNat _ _ = (c,2)
  rw [u8n (by omega),u8n (by omega)]
  unfold Lib.decodeN
  rw [if_neg (by omega),if_pos ⟨by omega,by simp,by omega⟩,if_pos (by omega)]
  congr 1;omega
 by_cases h3 : c < 65536
 ·rw [enc_3 h (by omega) h3]
  show Lib.decodeN _ (UInt8.ofNat (224 + c / 4096)).toNat (UInt8.ofNat (128 + c / 64 % 64)).toNat (UInt8.ofNat (128 + c % 64)).toNat _ = (c,3)
  rw [u8n (by omega),u8n (by omega),u8n (by omega)]
  unfold Lib.decodeN
  rw [if_neg (by omega),if_neg (by omega),if_pos ⟨by omega,⟨by simp,by omega⟩,by simp,by omega⟩,if_pos (by omega)]
  congr 1;omega
 ·rw [enc_4 h (by omega)]
  show Lib.decodeN _ (UInt8.ofNat (240 + c / 262144)).toNat (UInt8.ofNat (128 + c / 4096 % 64)).toNat (UInt8.ofNat (128 + c / 64 % 64)).toNat (UInt8.ofNat (128 + c % 64)).toNat = (c,4)
  rw [u8n (by omega),u8n (by omega),u8n (by omega),u8n (by omega)]
  unfold Lib.decodeN
  rw [if_neg (by omega),if_neg (by omega),if_neg (by omega),if_pos ⟨by omega,⟨by simp,by omega⟩,⟨by simp,by omega⟩,by simp,by omega⟩,if_pos (by omega)]
  congr 1;omega
theorem enc_len {c : Nat} (h : letB (c : Int) = true) : 1 <= (Utf8.encode (c : Int)).data.toList.length /\ (Utf8.encode (c : Int)).data.toList.length <= 4:=by
 by_cases h1 : c < 128
 ·rw [enc_1 h h1];simp
 by_cases h2 : c < 2048
 ·rw [enc_2 h (by omega) h2];simp
 by_cases h3 : c < 65536
 ·rw [enc_3 h (by omega) h3];simp
 ·rw [enc_4 h (by omega)];simp
theorem enc_is {c : Nat} (h : letB (c : Int) = true) : (Utf8.encode (c : Int)).data.toList = Lib.encodeRune (c : Int):=by
 have hb:=letB_rng h
 unfold Lib.encodeRune
 by_cases h1 : c < 128
 ·rw [enc_1 h h1,Lib.encodeRuneZ_one (by omega) (by omega)];simp
 by_cases h2 : c < 2048
 ·rw [enc_2 h (by omega) h2, Lib.encodeRuneZ_two (by omega) (by omega)]
  simp only [List.map_cons,List.map_nil]
  rw [show (192 + (c : Int) / 64).toNat = 192 + c / 64 by omega,show (128 + (c : Int) % 64).toNat = 128 + c % 64 by omega]
 by_cases h3 : c < 65536
 ·rw [enc_3 h (by omega) h3, Lib.encodeRuneZ_three (by omega)]
  simp only [List.map_cons,List.map_nil]
  rw [show (224 + (c : Int) / 4096).toNat = 224 + c / 4096 by omega,show (128 + (c : Int) / 64 % 64).toNat = 128 + c / 64 % 64 by omega,show (128 + (c : Int) % 64).toNat = 128 + c % 64 by omega]
 ·rw [enc_4 h (by omega), Lib.encodeRuneZ_four (by omega) (by omega)]
  simp only [List.map_cons,List.map_nil]
  rw [show (240 + (c : Int) / 262144).toNat = 240 + c / 262144 by omega,show (128 + (c : Int) / 4096 % 64).toNat = 128 + c / 4096 % 64 by omega,show (128 + (c : Int) / 64 % 64).toNat = 128 + c / 64 % 64 by omega,show (128 + (c : Int) % 64).toNat = 128 + c % 64 by omega]
def spelt (l : List Nat) : List UInt8:=l.flatMap (fun c : Nat=>(Utf8.encode (c : Int)).data.toList)
theorem spelt_valid : ∀ {l : List Nat},(∀ c∈l,letB (c : Int) = true) -> Lib.validD (spelt l) = true
 | [],_=>Lib.validD_nil
 | c :: l, h => by
  have hc:=h c List.mem_cons_self
  have hl:=enc_len hc
  have ih:=spelt_valid (l:=l) (fun x hx=>h x (List.mem_cons_of_mem _ hx))
  have e : spelt (c :: l) = (Utf8.encode (c : Int)).data.toList ++ spelt l:=rfl
  rw [e,Lib.validD_step _ (by intro e2;have:=congrArg List.length e2;simp only [List.length_append,List.length_nil] at this;omega),dec_enc hc,if_neg,List.drop_left]
  ·exact ih
  ·rintro ⟨e1, e2⟩
   simp only at e1 e2
   subst e1
   rw [enc_3 hc (by omega) (by omega)] at e2
   simp at e2
theorem count_from (s : ByteArray) (f p : Nat) : Lib.runeCountFrom s (f + 1) p = if p < s.size then 1 + Lib.runeCountFrom s f (p + (Utf8.decode s p).2) else 0:=rfl
theorem spelt_from {s : ByteArray} : ∀ {l : List Nat} {p f : Nat},(∀ c∈l,letB (c : Int) = true) -> s.data.toList.drop p = spelt l -> l.length <= f -> Lib.runeCountFrom s f p = l.length
 | [],p,f,_,e,_=>by
  refine Lib.runeCountFrom_end s f p (fun h=>?_)
  have:=congrArg List.length e
  rw [List.length_drop] at this
  have h2 : s.data.toList.length = s.size:=rfl
  simp [spelt] at this
  omega
 | c :: l,p,0,_,_,h=>by simp at h
 | c :: l, p, f + 1, h, e, hf => by
  have hc:=h c List.mem_cons_self
  have hl:=enc_len hc
  have e2 : spelt (c :: l) = (Utf8.encode (c : Int)).data.toList ++ spelt l:=rfl
  rw [e2] at e
  have h2 : s.data.toList.length = s.size:=rfl
  have hlen:=congrArg List.length e
  rw [List.length_drop,List.length_append] at hlen
  have hd : Utf8.decode s p = (c,(Utf8.encode (c : Int)).data.toList.length):=by
   rw [<- Lib.decodeL_drop,e,dec_enc hc]
  rw [count_from,if_pos (by omega),hd]
  have ih:=spelt_from (s:=s) (l:=l) (p:=p + (Utf8.encode (c : Int)).data.toList.length) (f:=f) (fun x hx=>h x (List.mem_cons_of_mem _ hx)) (by
   rw [<- List.drop_drop,e,List.drop_left]) (by simpa using hf)
  rw [ih,List.length_cons];omega
theorem spelt_len : ∀ {l : List Nat},(∀ c∈l,letB (c : Int) = true) -> l.length <= (spelt l).length
 | [],_=>Nat.le_refl _
 | c :: l,h=>by
  have hl:=enc_len (h c List.mem_cons_self)
  have ih:=spelt_len (l:=l) (fun x hx=>h x (List.mem_cons_of_mem _ hx))
  have e2 : spelt (c :: l) = (Utf8.encode (c : Int)).data.toList ++ spelt l:=rfl
  rw [e2,List.length_append,List.length_cons];omega
theorem spelt_count {s : ByteArray} {l : List Nat} (h : ∀ c∈l,letB (c : Int) = true) (e : s.data.toList = spelt l) : Lib.runeCount s = l.length :=
 spelt_from (s:=s) (p:=0) h (by rw [List.drop_zero];exact e) (by
  have h2 : s.data.toList.length = s.size:=rfl
  have:=spelt_len h
  rw [<- e] at this;omega)
theorem told_spelt {s : ByteArray} : ∀ {f p : Nat},Lib.validD (s.data.toList.drop p) = true -> s.size <= p + f ->
  ∃ l : List Nat,ltF s f p = l.map (fun c : Nat=>(c : Int)) /\ (∀ c∈l,letB (c : Int) = true) /\ s.data.toList.drop p = spelt l
 | 0, p, _, hs => ⟨[], rfl, fun c hc => (by cases hc), (by
   have h2 : s.data.toList.length = s.size:=rfl
   rw [List.drop_eq_nil_of_le (by omega)];rfl)⟩
 | f + 1, p, hv, hs => by
  have h2 : s.data.toList.length = s.size:=rfl
  by_cases hp : p < s.size
  ·have hne : s.data.toList.drop p ≠ [] := by
    intro e;have:=congrArg List.length e;rw [List.length_drop] at this;simp only [List.length_nil] at this;omega
   rw [Lib.validD_step _ hne,Lib.decodeL_drop] at hv
   by_cases hb : (Utf8.decode s p).1 = 65533 /\ (Utf8.decode s p).2 = 1
   ·rw [if_pos hb] at hv;cases hv
   ·rw [if_neg hb] at hv
    have hne2 : ¬ Utf8.decode s p = (65533,1):=fun e=>hb (by rw [e];exact ⟨rfl,rfl⟩)
    have er : runeD s p = Utf8.decode s p:=by unfold runeD;rw [if_neg hne2]
    have hw:=decode_le s p
    rw [List.drop_drop] at hv
    obtain ⟨l,e1,e2,e3⟩:=told_spelt (s:=s) (f:=f) (p:=p + (Utf8.decode s p).2) hv (by omega)
    have hlet : letB ((Utf8.decode s p).1 : Int) = true:=by
     have hd : Utf8.decode s p = Lib.decodeL (s.data.toList.drop p):=(Lib.decodeL_drop s p).symm
     have:=Lib.decodeN_valid (s.data.toList.drop p).length ((s.data.toList.drop p).getD 0 0).toNat ((s.data.toList.drop p).getD 1 0).toNat ((s.data.toList.drop p).getD 2 0).toNat ((s.data.toList.drop p).getD 3 0).toNat (UInt8.toNat_lt _)
     rw [<- Lib.decodeL_N,<- hd] at this
     unfold letB
     simp only [Bool.and_eq_true,Bool.or_eq_true,decide_eq_true_eq]
     omega
    refine ⟨(Utf8.decode s p).1 :: l,?_,?_,?_⟩
    ·unfold ltF
     rw [if_pos hp,er,show max 1 (Utf8.decode s p).2 = (Utf8.decode s p).2 by omega,e1];rfl
    ·intro c hc
     rcases List.mem_cons.1 hc with rfl | hc
     ·exact hlet
     ·exact e2 c hc
    ·have e4 : spelt ((Utf8.decode s p).1 :: l) = (Utf8.encode ((Utf8.decode s p).1 : Int)).data.toList ++ spelt l := rfl
     rw [e4,<- e3]
     have h5:=Lib.encode_decode (s.data.toList.drop p) hne (by rw [Lib.decodeL_drop];exact hb)
     rw [Lib.decodeL_drop] at h5
     have h6 : (Utf8.encode ((Utf8.decode s p).1 : Int)).data.toList = Lib.encodeRune ((Utf8.decode s p).1 : Int):=enc_is hlet
     rw [h6,h5,<- List.drop_drop,List.take_append_drop]
  ·refine ⟨[], ?_, fun c hc => (by cases hc), ?_⟩
   ·unfold ltF;rw [if_neg hp];rfl
   ·rw [List.drop_eq_nil_of_le (by omega)];rfl
theorem dgt_chr {d : Nat} (h : d < 36) : dgt (chr d) = d:=by
 unfold dgt chr
 by_cases h1 : d < 10
 ·rw [if_pos h1,if_pos (by omega)];omega
 ·rw [if_neg h1,if_neg (by omega),if_pos (by omega)];omega
theorem hv_rev (radix : Nat) : ∀ {D : List Nat},(∀ x∈D,x < 36) -> hv radix ((D.map chr).reverse) = val radix D
 | [],_=>rfl
 | d :: D,h=>by
  rw [List.map_cons,List.reverse_cons,hv_snoc,hv_rev radix (fun x hx=>h x (by simp [hx])),dgt_chr (h d (by simp)),val_cons,Nat.mul_comm]
  omega
def body (D : List Nat) : List Nat:=if D = [] then [48] else (D.map chr).reverse
theorem body_val {radix : Nat} {D : List Nat} (h : Dg radix D) (hr : radix <= 36) : hv radix (body D) = val radix D:=by
 unfold body
 by_cases hD : D = []
 ·subst hD;simp [hv,dgt,val]
 ·rw [if_neg hD];exact hv_rev radix (fun x hx=>by have:=h x hx;omega)
theorem body_digits {radix : Nat} {D : List Nat} (h : Dg radix D) (h2 : 2 <= radix) (hr : radix <= 36) : ∀ c∈body D,dgt c < radix:=by
 unfold body
 by_cases hD : D = []
 ·subst hD
  intro c hc
  simp at hc
  subst hc
  simp [dgt];omega
 ·rw [if_neg hD]
  intro c hc
  rw [List.mem_reverse] at hc
  obtain ⟨d,hd,rfl⟩:=List.mem_map.1 hc
  have:=h d hd
  rw [dgt_chr (by omega)];exact this
theorem body_ne (D : List Nat) : body D ≠ []:=by
 unfold body
 by_cases hD : D = []
 ·simp [hD]
 ·simp [hD]
theorem cutS_sg {l : List Nat} {c : Nat} {r : List Nat} (h : l = c :: r) (hc : c = 43 \/ c = 45) : cutS l = (decide (c = 45),r):=by
 subst h;simp [cutS,hc]
theorem cutS_none {radix : Nat} {l : List Nat} (h : ∀ c∈l,dgt c < radix) (hr : radix <= 36) : cutS l = (false,l):=by
 cases l with
 | nil=>rfl
 | cons c r =>
  have hc:=h c (by simp)
  have : ¬ (c = 43 \/ c = 45):=by
   rintro (rfl | rfl) <;> simp [dgt] at hc <;> omega
  simp [cutS,this]
theorem small_good {neg : Bool} {l : List Nat} (hd : Dg B32 l) (hg : goodB neg l = true) : ¬ Big (val B32 l):=by
 unfold Big
 have h1:=val_lt hd
 have h2 : B32 ^ l.length <= B32 ^ 40:=Nat.pow_le_pow_right (by decide) (goodB_len hg)
 omega
theorem digs_nil {v : Nat} (h : digs v v = []) : v = 0:=by
 have:=(digs_ok v v (Nat.le_refl _)).2.2.2
 exact Classical.byContradiction (fun e=>this e h)
theorem printL_body (neg : Bool) (v : Nat) (hn : neg = true -> v ≠ 0) : printL neg v = (if neg then [45] else []) ++ body (digs v v):=by
 unfold printL body
 by_cases e : digs v v = []
 ·rw [if_pos e, if_pos e]
  cases neg
  ·rfl
  ·exact absurd (digs_nil e) (hn rfl)
 ·rw [if_neg e,if_neg e]
theorem printL_cut (neg : Bool) (v : Nat) (hn : neg = true -> v ≠ 0) : cutS (printL neg v) = (neg,body (digs v v)):=by
 have hd:=(digs_ok v v (Nat.le_refl _)).1
 rw [printL_body neg v hn]
 cases neg
 ·exact cutS_none (radix:=10) (body_digits hd (by omega) (by omega)) (by omega)
 ·exact cutS_sg (c:=45) rfl (.inr rfl)
theorem printL_lt (neg : Bool) (v : Nat) : ∀ x∈printL neg v,x < 256:=by
 have hd:=(digs_ok v v (Nat.le_refl _)).1
 intro x hx
 unfold printL at hx
 split at hx
 ·rw [List.mem_singleton.1 hx];omega
 ·rcases List.mem_append.1 hx with hx | hx
  ·cases neg
   ·cases hx
   ·rw [List.mem_singleton.1 hx];omega
  ·rw [List.mem_reverse] at hx
   obtain ⟨d,hd',rfl⟩:=List.mem_map.1 hx
   exact chr_lt (Nat.lt_of_lt_of_le (hd d hd') (by omega))
theorem printed_ok {neg : Bool} {v : Nat} (hn : neg = true -> v ≠ 0) (hv40 : v < B32 ^ 40) : printedB (textOf (printL neg v)) = true:=by
 obtain ⟨hd,ht,hval,_⟩:=digs_ok v v (Nat.le_refl _)
 have h10 : ∀ c∈body (digs v v),dgt c < 10:=body_digits hd (by omega) (by omega)
 have hbv : hv 10 (body (digs v v)) = v:=by rw [body_val hd (by omega),hval]
 unfold printedB
 rw [bs_textOf (printL_lt neg v),printL_cut neg v hn]
 simp only
 rw [hbv]
 have e1 : digitsB 10 (body (digs v v)) = true:=by
  have:=digitsB_of (rx:=10) (l:=body (digs v v)) (List.length_pos_iff.2 (body_ne _)) (fun j hj=>h10 _ (by
   rw [List.getD_eq_getElem?_getD,List.getElem?_eq_getElem hj];exact List.getElem_mem hj))
  exact this
 have e2 : (neg && decide (v ≠ 0)) = neg:=by
  cases neg
  ·rfl
  ·rw [decide_eq_true (hn rfl)];rfl
 rw [e1,e2,decide_eq_true hv40,decide_eq_true rfl];rfl
theorem printed_txZ {t : ByteArray} (h : printedB t = true) : textOf (printL (decide (txZ t < 0)) (txZ t).natAbs) = t /\ (txZ t).natAbs < B32 ^ 40:=by
 unfold printedB at h
 rw [Bool.and_eq_true,Bool.and_eq_true,decide_eq_true_eq,decide_eq_true_eq] at h
 obtain ⟨⟨_,h2⟩,h3⟩:=h
 have e : txZ t = sgn ((cutS (bs t)).1 && decide (hv 10 (cutS (bs t)).2 ≠ 0)) (hv 10 (cutS (bs t)).2):=rfl
 generalize hv 10 (cutS (bs t)).2 = v at *
 generalize (cutS (bs t)).1 = b at *
 have hn : (txZ t).natAbs = v /\ decide (txZ t < 0) = (b && decide (v ≠ 0)):=by
  rw [e]
  by_cases hv0 : v = 0
  ·subst hv0;cases b <;> simp [sgn]
  ·cases b
   ·simp [sgn]
   ·rw [decide_eq_true hv0]
    refine ⟨by simp [sgn],?_⟩
    have : sgn (true && true) v < 0:=by simp [sgn];omega
    rw [decide_eq_true this];rfl
 rw [hn.1,hn.2,<- h3,textOf_bs]
 exact ⟨rfl,h2⟩
theorem ofR_rt {x : Int} (h : nK x ≠ 0) : rightB (nK x) (nN x) (ofR x).2.2 = true:=by
 unfold nK nN at *
 unfold ofR at *
 split
 ·assumption
 ·rename_i hr
  rw [if_neg hr] at h
  exact absurd rfl h
theorem nK4_let {x : Int} (h : nK x = 4) : letB (nN x) = true:=by
 have:=ofR_rt (x:=x) (by omega)
 rw [h] at this
 have e : ltrB (nN x) = true:=by
  unfold rightB at this
  simp only [show ¬ ((4 : Int) = 1) by decide,show ¬ ((4 : Int) = 2) by decide,show ¬ ((4 : Int) = 3) by decide,if_false,if_true,Bool.and_eq_true] at this
  exact this.2
 exact e
theorem nK1_fix {x : Int} (h : nK x = 1) : fixB (nN x) = true:=by
 have:=ofR_rt (x:=x) (by omega)
 rw [h] at this
 exact this
theorem fix_lt {z : Int} (h : fixB z = true) : z.natAbs < B32 ^ 40:=by
 unfold fixB at h
 rw [Bool.and_eq_true,decide_eq_true_eq,decide_eq_true_eq] at h
 have h1 : z.natAbs < B32 ^ 2:=by
  have : B32 ^ 2 = 18446744073709551616:=by decide
  omega
 exact Nat.lt_of_lt_of_le h1 (Nat.pow_le_pow_right (by decide) (by omega))
theorem neg_nz {z : Int} : decide (z < 0) = true -> z.natAbs ≠ 0:=fun h=>by have:=of_decide_eq_true h;omega
theorem okD_mk {d : Nd} (h1 : 1 <= d.kind /\ d.kind <= 17) (h2 : numB d.kind d.num = true) (h3 : textB d.kind d.text = true) (h4 : countB d.kind d.kids.length = true) : okD d = true:=by
 unfold okD
 rw [decide_eq_true h1.1,decide_eq_true h1.2,h2,h3,h4];rfl
theorem ok_void : okD voidN = true:=okD_mk (by unfold voidN;simp) rfl rfl rfl
theorem ok_bare {k : Int} (h : k = 1 \/ k = 10 \/ k = 12 \/ k = 14 \/ k = 17) : okD ⟨k,0,ByteArray.empty,[]⟩ = true:=by
 rcases h with rfl | rfl | rfl | rfl | rfl <;> exact okD_mk (by simp) rfl (by first | rfl | decide) rfl
theorem lrT_spelt {f : List Int} (h : f.all lrB = true) : ∃ l : List Nat,l.length = f.length /\ (∀ c∈l,letB (c : Int) = true) /\ (textOf (lrT f)).data.toList = spelt l:=by
 have hall : ∀ x∈f,letB (nN x) = true:=fun x hx=>nK4_let (by
  have:=List.all_eq_true.1 h x hx
  unfold lrB at this
  exact of_decide_eq_true this)
 have hnn : ∀ x∈f,((nN x).toNat : Int) = nN x:=fun x hx=>by
  have:=hall x hx
  unfold letB at this
  simp only [Bool.and_eq_true,decide_eq_true_eq] at this
  omega
 refine ⟨f.map (fun x=>(nN x).toNat),by rw [List.length_map],fun c hc=>?_,?_⟩
 ·obtain ⟨x, hx, rfl⟩ := List.mem_map.1 hc
  rw [hnn x hx];exact hall x hx
 ·have e1 : bs (textOf (lrT f)) = lrT f := bs_textOf (fun y hy => by
   unfold lrT at hy
   obtain ⟨x,_,hx⟩:=List.mem_flatMap.1 hy
   exact bs_byte _ y hx)
  have e2 : (spelt (f.map (fun x=>(nN x).toNat))).map UInt8.toNat = lrT f:=by
   unfold spelt lrT bs
   rw [List.flatMap_map,List.map_flatMap]
   rw [List.flatMap_def,List.flatMap_def]
   refine congrArg List.flatten (List.map_congr_left (fun x hx=>?_))
   show ((Utf8.encode (((nN x).toNat : Nat) : Int)).data.toList).map UInt8.toNat = ((Utf8.encode (nN x)).data.toList).map UInt8.toNat
   rw [hnn x hx]
  have e3 : (textOf (lrT f)).data.toList.map UInt8.toNat = (spelt (f.map (fun x=>(nN x).toNat))).map UInt8.toNat:=e1.trans e2.symm
  exact List.map_inj_right (fun a b e=>UInt8.toNat_inj.1 e) |>.1 e3
theorem ok_word (os : List Ob) (nm : List ByteArray) (x : Int) : okD (wordD os nm x) = true:=by
 have hsym : ∀ y,symB nm y = true -> textB 6 (symT nm y) = true:=fun y h=>by
  unfold symB at h
  rw [Bool.and_eq_true,Bool.and_eq_true] at h
  exact h.2.2
 unfold wordD
 split
 ·rename_i k hk
  generalize (os.getD k default).kind = kd
  generalize (os.getD k default).f = f
  by_cases k1 : kd = 1
  ·subst k1
   rw [objD_1]
   split
   ·rename_i h;exact okD_mk (by simp) rfl rfl (by show countB 7 f.length = true;rw [countB_2 _ (.inl rfl)];exact decide_eq_true h)
   ·exact ok_void
  by_cases k2 : kd = 2
  ·subst k2
   rw [objD_2]
   split
   ·rename_i h;exact okD_mk (by simp) rfl rfl (by show countB 8 f.length = true;rw [countB_8];exact decide_eq_true h)
   ·exact ok_void
  by_cases k3 : kd = 3
  ·subst k3
   rw [objD_3]
   split
   ·rename_i h
    rw [Bool.and_eq_true,decide_eq_true_eq] at h
    obtain ⟨l,hl,hlet,hsp⟩:=lrT_spelt h.1
    refine okD_mk (by simp) rfl ?_ rfl
    show textB 5 (textOf (lrT f)) = true
    rw [textB_5,hsp,spelt_valid hlet,spelt_count hlet hsp,hl,decide_eq_true h.2];rfl
   ·exact ok_void
  by_cases k4 : kd = 4
  ·subst k4
   rw [objD_4]
   split
   ·rename_i h
    rw [Bool.and_eq_true,decide_eq_true_eq] at h
    refine okD_mk (by simp) rfl ?_ rfl
    show textB 9 (textOf (byT f)) = true
    rw [textB_9]
    have : (textOf (byT f)).size = f.length:=by
     show ((byT f).map UInt8.ofNat).toArray.size = f.length
     simp [byT]
    rw [this];exact decide_eq_true h.2
   ·exact ok_void
  by_cases k5 : kd = 5
  ·subst k5
   rw [objD_5]
   split
   ·rename_i h
    refine okD_mk (by simp) rfl ?_ rfl
    show textB 3 _ = true
    rw [textB_3]
    unfold bigB at h
    simp only [Bool.and_eq_true] at h
    obtain ⟨h1,h2,h3,h4,h5⟩:=h
    have hdg : Dg B32 (numMag f):=fun y hy=>by
     unfold numMag at hy
     obtain ⟨z,hz,rfl⟩:=List.mem_map.1 hy
     have:=List.all_eq_true.1 h2 z (List.mem_of_mem_drop hz)
     unfold limbB at this
     simp only [Bool.and_eq_true,decide_eq_true_eq] at this
     show (nN z).toNat < B32
     unfold B32;omega
    have hb:=small_good hdg h4
    refine printed_ok (fun hn=>?_) (by unfold Big at hb;omega)
    have h0 : numMag f ≠ []:=fun e=>by have:=goodB_neg h4 (by rw [e];rfl);rw [hn] at this;cases this
    exact (goodB_tr h4).ne_zero (B:=B32) (by decide) h0
   ·exact ok_void
  by_cases k12 : kd = 12
  ·subst k12
   rw [objD_12]
   split
   ·rename_i h
    unfold condB at h
    simp only [Bool.and_eq_true,decide_eq_true_eq] at h
    refine okD_mk (by simp) ?_ rfl ?_
    ·show numB 13 _ = true
     rw [numB_13,decide_eq_true h.2.2.1,decide_eq_true h.2.2.2];rfl
    ·show countB 13 (f.drop 1).length = true
     rw [countB_2 _ (.inr rfl),List.length_drop,h.1];rfl
   ·exact ok_void
  by_cases k14 : kd = 14
  ·subst k14
   rw [objD_14]
   split
   ·rename_i h
    refine okD_mk (by simp) rfl ?_ (countB_t _ (.inl rfl))
    show textB 15 (recT os nm (f.getD 0 0)) = true
    rw [Bool.and_eq_true] at h
    have h2:=h.2
    unfold recB at h2
    unfold recT
    split at h2
    ·rename_i k' hk'
     rw [Bool.and_eq_true,Bool.and_eq_true] at h2
     have:=h2.2.2
     unfold namB at this
     rw [Bool.and_eq_true,Bool.and_eq_true] at this
     exact this.2.2
    ·cases h2
   ·exact ok_void
  rw [objD_o k1 k2 k3 k4 k5 k12 k14]
  split
  ·exact ok_bare (by omega)
  split
  ·exact ok_bare (by omega)
  split
  ·exact okD_mk (by simp) rfl rfl (countB_t _ (.inr rfl))
  split
  ·exact okD_mk (by simp) rfl (by show textB 15 recordT = true;rw [textB_v _ (.inr rfl)];decide) rfl
  split
  ·exact okD_mk (by simp) rfl (by show textB 15 tableT = true;rw [textB_v _ (.inr rfl)];decide) rfl
  split
  ·exact ok_bare (by omega)
  ·exact ok_void
 ·unfold plainD
  split
  ·rename_i h
   refine okD_mk (by simp) rfl ?_ rfl
   show textB 3 _ = true
   rw [textB_3]
   exact printed_ok neg_nz (fix_lt (nK1_fix h))
  split
  ·split
   ·exact ok_bare (by omega)
   split
   ·rename_i h
    refine okD_mk (by simp) ?_ rfl rfl
    show numB 2 (nN x - 1) = true
    rw [numB_2]
    rcases h with h | h <;> rw [h] <;> rfl
   split
   ·exact ok_bare (by omega)
   ·exact ok_void
  split
  ·rename_i h
   refine okD_mk (by simp) ?_ rfl rfl
   show numB 4 (nN x) = true
   rw [numB_4];exact nK4_let h
  split
  ·rename_i h
   exact okD_mk (by simp) rfl (hsym x h) rfl
  split
  ·exact ok_bare (by omega)
  ·exact ok_void
end Go.Proofs.YticimejfjjmikaaGreatDoor
