import Derived.Test.YticimejfjjmikaaGreatDoorV9e
import Derived.Test.YticimejfjjmikaaGreatDoorX3
import Derived.Deep.LoopGhost
import Derived.Deep.RegionWith
set_option linter.unusedVariables false
set_option linter.unusedSimpArgs false
set_option maxRecDepth 100000
namespace Go.Proofs.YticimejfjjmikaaGreatDoor
open Go.RowKit
def xr (os : List Ob) (q k : Nat) : Prop:=k <= os.length /\ (∀ j,j < k -> atO os j < q) /\ (k < os.length -> q <= atO os k)
theorem xr.zero (os : List Ob) : xr os 0 0:=⟨Nat.zero_le _,fun j hj=>by omega,fun _=>Nat.zero_le _⟩
theorem xr.yes {os : List Ob} {q k j : Nat} (h : xr os q k) (hj : j < os.length) (e : q = atO os j) : j = k /\ xr os (q + 1) (k + 1):=by
 obtain ⟨h1,h2,h3⟩:=h
 have hjk : k <= j:=Nat.le_of_not_lt (fun hlt=>by have:=h2 j hlt;omega)
 have hkj : j = k:=by
  rcases Nat.lt_or_ge k j with hlt | hge
  ·have := zfu (os := os) (j := k) (k := j) (by omega) (by omega)
   have:=h3 (by omega)
   omega
  ·omega
 subst hkj
 refine ⟨rfl,by omega,fun i hi=>?_,fun hlt=>?_⟩
 ·by_cases e' : i = j
  ·rw [e',<- e];omega
  ·have:=h2 i (by omega);omega
 ·have := zfu (os := os) (j := j) (k := j + 1) (by omega) (by omega)
  omega
theorem xr.no {os : List Ob} {q k : Nat} (h : xr os q k) (hn : ¬ ∃ j,j < os.length /\ q = atO os j) : xr os (q + 1) k:=by
 obtain ⟨h1,h2,h3⟩:=h
 refine ⟨h1,fun j hj=>by have:=h2 j hj;omega,fun hlt=>?_⟩
 have:=h3 hlt
 have : q ≠ atO os k:=fun e=>hn ⟨k,hlt,e⟩
 omega
theorem xr.all {os : List Ob} {k : Nat} (h : xr os (zc os) k) : k = os.length:=by
 obtain ⟨h1,h2,h3⟩:=h
 rcases Nat.lt_or_ge k os.length with hlt | hge
 ·have := h3 hlt
  have:=kj hlt
  omega
 ·omega
section
variable {B : Nat} {v : Value} {N : Int} {F : Nat -> Prop} {ws : List Int}
theorem zih1 {k : Nat} {z : Int} (hk : k < ws.length) (hz : U64 z) (w : World) (h : PH B v N ws F w) : Calls Tryz.prog 112 #[v,.int .i64 k,.int .u64 z] w fun e w'=>e = .returned (.tuple #[]) /\ PH B v N (ws.set k z) F w' /\ Mod F w w':=by
 have CU:=hid (q_in hk w h)
 obtain ⟨gh,gw,n,rest,rfl,hp⟩:=h.opened
 have HP:=hid hp
 have HZ:=hid hz
 have HK:=hid hk
 have c0:=hp.c0
 have cw:=hp.word' hk
 have fw:=zf hp.row k
 have hul:=hp.used_le
 have hnn:=hp.nn
 have hbd:=hp.bd
 obtain ⟨y,hy⟩ : ∃ y,y = ws.getD k 0:=⟨_,rfl⟩
 rw [<- hy] at cw
 clear h hp hy
 go_enter Tryz.func112,Tryz.ntmps112
 go_wp2_with (go_at_call 118;(with_reducible refine CU.out.mono ?_);rintro e W1 ⟨rfl,hw1⟩;rw [hw1];clear hw1)
 go_end0
 obtain ⟨q1,q2⟩:=HP.out.put HK.out HZ.out
 exact ⟨rfl,q1.shut,q2⟩
theorem PO.cut {gh gw n : Nat} {rest : List Int} {w : World} (h : PO B gh gw n N ws rest F w) {k : Nat} (hk : k <= ws.length) : PO B gh gw n N (ws.take k) (ws.drop k ++ rest) F (w.setCell ⟨gh,1,none⟩ (.int .i64 (k : Nat))) /\ Mod F w (w.setCell ⟨gh,1,none⟩ (.int .i64 (k : Nat))):=by
 have e0 : (ws.take k).length = k:=by rw [List.length_take];omega
 refine ⟨{ h with box:=?_,row:=?_,len:=?_,bd:=?_,u:=?_ },(Mod.refl F w).setCell (.inl ((h.ff gh).2 (.inl rfl))) _⟩
 ·rw [e0,zy (i:=1) h.box];rfl
 ·rw [<- List.append_assoc, List.take_append_drop]
  exact (Below.heap_setCell w ⟨gh,1,none⟩ _ gw (fun e=>h.ne e.symm)).trans h.row
 ·rw [<- List.append_assoc,List.take_append_drop];exact h.len
 ·rw [e0];have:=h.bd;omega
 ·exact fun z hz=>h.u z (List.mem_of_mem_take hz)
theorem zzo (n : Int) (hn : Z64 n) (w : World) (h : PH B v N ws F w) (hB : B <= w.heap.size) : Calls Tryz.prog 113 #[v,.int .i64 n] w fun e w'=>e = .returned (.tuple #[]) /\ zda B v N F w (if 0 <= n /\ n <= ws.length then ws.take n.toNat else ws) w':=by
 have CU:=hid (zli w h)
 have same : Hid (zda B v N F w ws w):=⟨F,h,fun b hb=>.inl hb,Mod.refl F w⟩
 obtain ⟨R,hR⟩ : ∃ R,R = (if 0 <= n /\ n <= ws.length then ws.take n.toNat else ws):=⟨_,rfl⟩
 rw [<- hR]
 have HRR:=hid hR
 clear hR
 obtain ⟨gh,gw,m,rest,rfl,hp⟩:=h.opened
 have HP:=hid hp
 have hbd:=hp.bd
 have c1:=hp.c1
 have f1:=zf hp.box 1
 unfold Z64 at hn
 clear h hp
 by_cases h0 : n < 0
 ·have he : Hid (R = ws) := HRR.out.trans (if_neg (by omega))
  go_enter Tryz.func113,Tryz.ntmps113
  go_wp2_with (go_at_call 48;(with_reducible refine CU.out.mono ?_);rintro e W1 ⟨rfl,hw1⟩;rw [hw1];clear hw1)
  go_end0
  rw [he.out]
  exact ⟨rfl,same.out⟩
 obtain ⟨k,rfl⟩ : ∃ k : Nat,n = (k : Int):=⟨n.toNat,by omega⟩
 by_cases h1 : k < ws.length
 ·have he : Hid (R = ws.take k) := by unfold Hid; rw [HRR.out, if_pos (by omega), Int.toNat_natCast]
  have HK:=hid h1
  go_enter Tryz.func113,Tryz.ntmps113
  go_wp2_with (go_at_call 48;(with_reducible refine CU.out.mono ?_);rintro e W1 ⟨rfl,hw1⟩;rw [hw1];clear hw1)
  go_end0
  rw [he.out]
  obtain ⟨q1,q2⟩:=HP.out.cut (k:=k) (Nat.le_of_lt HK.out)
  exact ⟨rfl,F,q1.shut,fun b hb=>.inl hb,q2⟩
 ·have he : Hid (R = ws) := by
   unfold Hid
   rw [HRR.out]
   split
   ·rename_i hc
    rw [Int.toNat_natCast,List.take_of_length_le (by omega)]
   ·rfl
  go_enter Tryz.func113,Tryz.ntmps113
  go_wp2_with (go_at_call 48;(with_reducible refine CU.out.mono ?_);rintro e W1 ⟨rfl,hw1⟩;rw [hw1];clear hw1)
  go_end0
  rw [he.out]
  exact ⟨rfl,same.out⟩
end
theorem zdb (z : Int) (hz : U64 z) (w : World) : Calls Tryz.prog 107 #[.int .u64 z] w fun e w'=>e = .returned (.bool (isHd z)) /\ w' = w:=by
 have C:=hid (ko z hz w)
 have e0 : isR 8 z = isHd z:=rfl
 rw [e0] at C
 obtain ⟨b,hb⟩ : ∃ b,b = isHd z:=⟨_,rfl⟩
 obtain ⟨kd,hkd⟩ : ∃ k,k = typR z:=⟨_,rfl⟩
 obtain ⟨sz,hsz⟩ : ∃ k,k = hasR 8 z:=⟨_,rfl⟩
 rw [<- hb,<- hkd,<- hsz] at C
 rw [<- hb]
 clear hb hkd hsz e0
 go_enter Tryz.func107,Tryz.ntmps107
 go_wp2_with (go_at_call 115;(with_reducible refine C.out.mono ?_);rintro e W1 ⟨rfl,hw1⟩;rw [hw1];clear hw1)
 go_ret
 exact ⟨rfl,rfl⟩
section
variable {B : Nat} {v : Value} {N : Int} {F : Nat -> Prop} {os : List Ob}
theorem zaq {w : World} (h : PH B v N (zi os) F w) : zc os <= 4194304:=by
 have hbd:=h.bd
 rw [zh] at hbd
 omega
theorem zzp {k : Nat} (ho : OsOk os) (hk : k < os.length) (w : World) (h : PH B v N (zi os) F w) :
  Calls Tryz.prog 109 #[v,.int .i64 (atO os k : Nat)] w fun e w'=>e = .returned (.int .i64 ((1 + (os.getD k default).f.length : Nat) : Int)) /\ w' = w:=by
 have hus:=zaq h
 have hlt:=kj hk
 have hwl : (zi os).length = zc os:=zh os
 have CU:=hid (zli w h)
 rw [hwl] at CU
 have C0:=hid (zej (k:=atO os k) (by omega) w h)
 have hu0 : U64 ((zi os).getD (atO os k) 0):=h.u _ (zq (by omega))
 have C1:=hid (ko _ hu0 w)
 have hho : ofR ((zi os).getD (atO os k) 0) = (8,(((os.getD k default).f.length : Nat) : Int),(os.getD k default).kind):=by
  rw [zak hk];exact zix (ho.kd _ (yi hk)) (by omega)
 have e1 : hasR 8 ((zi os).getD (atO os k) 0) = ((os.getD k default).f.length : Nat):=by unfold hasR;rw [hho];simp
 rw [e1] at C1
 have CF : Hid (∀ j,j < (os.getD k default).f.length -> ∃ z,U64 z /\ isHd z = false /\ Calls Tryz.prog 108 #[v,.int .i64 ((atO os k + 1 + j : Nat) : Int)] w fun e w'=>e = .returned (.int .u64 z) /\ w' = w):=fun j hj =>
  ⟨(os.getD k default).f.getD j 0,ho.uf _ (yi hk) _ (zq hj),ho.nh _ (yi hk) _ (zq hj),by
   have:=zej (k:=atO os k + 1 + j) (by omega) w h
   rw [xb hk hj] at this
   exact this⟩
 obtain ⟨A,hA⟩ : ∃ x,x = atO os k:=⟨_,rfl⟩
 obtain ⟨m,hm⟩ : ∃ x,x = (os.getD k default).f.length:=⟨_,rfl⟩
 obtain ⟨z0,hz0⟩ : ∃ x,x = (zi os).getD (atO os k) 0:=⟨_,rfl⟩
 obtain ⟨us,hu⟩ : ∃ x,x = zc os:=⟨_,rfl⟩
 rw [<- hz0] at C0 C1 hu0
 obtain ⟨t0,ht0⟩ : ∃ x,x = typR z0:=⟨_,rfl⟩
 obtain ⟨b0,hb0⟩ : ∃ x,x = isR 8 z0:=⟨_,rfl⟩
 rw [<- ht0,<- hb0] at C1
 rw [<- hA] at C0 CF hlt ⊢
 rw [<- hm] at C1 CF hlt ⊢
 rw [<- hu] at CU hlt hus
 obtain ⟨gh,rfl⟩:=h.ptr
 clear h hA hm hz0 hu hwl hho e1 hu0 ho hk ht0 hb0
 go_enter Tryz.func109,Tryz.ntmps109
 have hmin : Min.min ((A : Int) + 1 + (m : Int)) (us : Int) = (A : Int) + 1 + (m : Int):=by omega
 go_wp2_with (first
  | (go_at_call 108;(with_reducible refine C0.out.mono ?_);rintro e W1 ⟨rfl,hw1⟩;rw [hw1];clear hw1)
  | (go_at_call 115;(with_reducible refine C1.out.mono ?_);rintro e W1 ⟨rfl,hw1⟩;rw [hw1];clear hw1)
  | (go_at_call 48;(with_reducible refine CU.out.mono ?_);rintro e W1 ⟨rfl,hw1⟩;rw [hw1];clear hw1))
 clear C0 C1 CU hmin
 go_loopw [9] (fun i wr=>∃ q : Nat,q <= m /\ i = .int .i64 ((A : Int) + 1 + (q : Int)) /\ Hid (wr = w)) (fun i _=>m - (intOf i - (A : Int) - 1).toNat)
 case atStart=>exact ⟨0,Nat.zero_le _,by simp,rfl⟩
 case round =>
  obtain ⟨q,hq,rfl,hw⟩:=hrel
  by_cases hlt2 : q < m
  ·obtain ⟨z, hz, hh, hc⟩ := CF.out q hlt2
   have CW:=hid hc
   have CI:=hid (zdb z hz w)
   rw [hh] at CI
   have hcast : ((A + 1 + q : Nat) : Int) = (A : Int) + 1 + (q : Int):=by omega
   rw [hcast] at CW
   clear hc hz hh hcast
   have hw':=hw.out
   subst hw'
   go_wp2_with (first
    | (go_at_call 108;(with_reducible refine CW.out.mono ?_);rintro e W1 ⟨rfl,hw1⟩;rw [hw1];clear hw1)
    | (go_at_call 107;(with_reducible refine CI.out.mono ?_);rintro e W1 ⟨rfl,hw1⟩;rw [hw1];clear hw1))
   exact ⟨⟨q + 1,by omega,by go_num,trivial⟩,by simp [intOf] <;> omega⟩
  ·obtain rfl : q = m := by omega
   have hw':=hw.out
   subst hw'
   go_wp2_with fail
   go_ret
   refine ⟨?_,rfl⟩
   rw [show ((A : Int) + 1 + (q : Int) - (A : Int)) = ((1 + q : Nat) : Int) by omega]
   rfl
end
structure MM (b : Nat) (w0 : World) (v vs : Value) (ln st : List Int) (w : World) : Prop where
 bel : Below b w0 w
 bb : w.heap[b]? = some (.cells #[v] 25 (0,0))
 bl : w.heap[b + 1]? = some (.cells (iz ln).toArray 3 (0,0))
 bp : w.heap[b + 2]? = some (.cells #[.slice (some ⟨b + 1,0,none⟩) ln.length ln.length] 32 (0,0))
 bs : w.heap[b + 3]? = some (.cells #[vs] 32 (0,0))
 so : w.ownsRow (b + 4) 3 1 vs st.length (iz st)
section
variable {b : Nat} {w0 w w' : World} {v vs : Value} {ln st : List Int}
theorem MM.size (h : MM b w0 v vs ln st w) : b + 4 <= w.heap.size:=(Array.getElem?_eq_some_iff.1 h.bs).1
theorem MM.on (h : MM b w0 v vs ln st w) (hb : Below w.heap.size w w') : MM b w0 v vs ln st w':=by
 have hs:=h.size
 exact ⟨h.bel.trans (hb.mono (by omega)),(hb.block b (by omega)).trans h.bb,(hb.block _ (by omega)).trans h.bl,(hb.block _ (by omega)).trans h.bp,(hb.block _ (by omega)).trans h.bs,je h.so hb⟩
theorem MM.len (h : MM b w0 v vs ln st w) {i : Nat} (hi : i < ln.length) : w.cell? ⟨b + 1,i,none⟩ = some (.int .i64 (ln.getD i 0)):=by
 rw [za h.bl]
 simp [iz,List.getElem?_map,List.getElem?_eq_getElem hi,List.getD_eq_getElem?_getD]
theorem MM.set (h : MM b w0 v vs ln st w) (i : Nat) (z : Int) : MM b w0 v vs (ln.set i z) st (w.setCell ⟨b + 1,i,none⟩ (.int .i64 z)):=by
 have hs:=h.size
 have hset : ∀ k,k ≠ b + 1 -> (w.setCell ⟨b + 1,i,none⟩ (.int .i64 z)).heap[k]? = w.heap[k]?:=fun k hne=>Below.heap_setCell _ _ _ _ hne
 refine ⟨h.bel.setCell (p:=⟨b + 1,i,none⟩) (by show b <= b + 1;omega) _,(hset _ (by omega)).trans h.bb,?_,?_,(hset _ (by omega)).trans h.bs,yq h.so (fun k e=>hset k (by have:=(h.so.lt k e).1;omega))⟩
 ·rw [zy (i := i) h.bl]
  simp [iz,List.map_set]
 ·rw [List.length_set];exact (hset _ (by omega)).trans h.bp
theorem MM.turn (h : MM b w0 v vs ln st w) {vs' : Value} {st' : List Int} (hg : w.grownBy w' vs.ownBlock) (ho : w'.ownsRow (b + 4) 3 1 vs' st'.length (iz st')) :
  MM b w0 v vs' ln st' (w'.setCell ⟨b + 3,0,none⟩ vs') /\ w'.cell? ⟨b + 3,0,none⟩ = some vs /\ w'.frozen? ⟨b + 3,0,none⟩ = false:=by
 have hs:=h.size
 have hs2:=hg.size
 have hlow : ∀ k,k < b + 4 -> w'.heap[k]? = w.heap[k]?:=fun k hk=>hg.block k (by omega) (fun e=>by have:=(h.so.lt k e.symm).1;omega)
 have hset : ∀ k,k ≠ b + 3 -> (w'.setCell ⟨b + 3,0,none⟩ vs').heap[k]? = w'.heap[k]?:=fun k hne=>Below.heap_setCell _ _ _ _ hne
 have hbs:=(hlow (b + 3) (by omega)).trans h.bs
 refine ⟨⟨?_,(hset _ (by omega)).trans ((hlow _ (by omega)).trans h.bb),(hset _ (by omega)).trans ((hlow _ (by omega)).trans h.bl),(hset _ (by omega)).trans ((hlow _ (by omega)).trans h.bp),?_,yq ho (fun k e=>hset k (by have:=(ho.lt k e).1;omega))⟩,za hbs 0,zf hbs 0⟩
 ·exact (h.bel.trans ⟨hg.os,hg.tape,hg.output,hg.size,fun k hk=>hlow k (by omega)⟩).setCell (p:=⟨b + 3,0,none⟩) (by show b <= b + 3;omega) _
 ·rw [zy (i:=0) hbs];rfl
theorem zdu1 {base : Nat} {e : TypeId} {a : Option Addr} {n c : Nat} {l : List Int} {z : Int} (h : w.ownsRow base e 1 (.slice a (n + 1) c) (n + 1) (iz (l ++ [z]))) : w.ownsRow base e 1 (.slice a n c) n (iz l) /\ n + 1 <= c /\ c <= maxLen /\ ∃ g,a = some ⟨g,0,none⟩ /\ w.cell? ⟨g,n,none⟩ = some (.int .i64 z):=by
 obtain ⟨h1,h2⟩:=h
 rw [xj,List.length_append] at h1
 have hl : l.length = n:=by simpa using h1
 rcases h2 with ⟨e1,e2⟩ | ⟨g,cap,cur,e1,e2,e3,e4,e5,e6,e7⟩
 ·omega
 ·injection e1 with e1 e1' e1''
  subst e1''
  have ht : cur.toList.take n = iz l:=by
   have:=congrArg (List.take n) e7
   rw [List.take_take,zfw,List.take_append_of_le_length (by rw [xj];omega),show min n ((n + 1) * 1) = n by omega] at this
   rw [this,List.take_of_length_le (by rw [xj];omega)]
  refine ⟨⟨by rw [xj];omega,.inr ⟨g,c,cur,by rw [e1],e2,e3,by omega,e5,e6,by rw [Nat.mul_one];exact ht⟩⟩,e4,e5,g,e1,?_⟩
  rw [za e3]
  have hg : (cur.toList.take ((n + 1) * 1))[n]? = some (.int .i64 z):=by
   rw [e7,zfw,List.getElem?_append_right (by rw [xj];omega),xj,hl,Nat.sub_self];rfl
  rw [List.getElem?_take,if_pos (by omega)] at hg
  simpa using hg
end
theorem zll {w : World} {base : Nat} {e : TypeId} {k : Nat} {v : Value} {n : Nat} {xs : List Value} (h : w.ownsRow base e k v n xs) : ∃ a c,v = .slice a n c /\ n <= c /\ c <= 9223372036854775807:=by
 rcases h.2 with ⟨e1,e2⟩ | ⟨g,cap,cur,e1,_,_,h4,h5,_⟩
 ·subst e2;exact ⟨none,0,e1,Nat.le_refl _,by omega⟩
 ·unfold maxLen at h5;exact ⟨_,_,e1,h4,h5⟩
theorem gf (w : World) : Below w.heap.size w w.drew:=⟨rfl,rfl,rfl,Nat.le_refl _,fun _ _=>rfl⟩
def MX (os : List Ob) (b : Nat) (w0 : World) (v : Value) (l : List Bool) (sk : List Nat) (w : World) : Prop :=
 ∃ vs ln,Lens os l ln /\ MM b w0 v vs ln (sk.map (fun k=>((atO os k : Nat) : Int))) w
section
variable {B : Nat} {N : Int} {F : Nat -> Prop} {os : List Ob} {l : List Bool} {sk : List Nat}
set_option maxHeartbeats 16000000 in
theorem zwc {gh : Nat} (ho : OsOk os) (w0 : World) (hp0 : PH B (.pointer (some ⟨gh,0,none⟩)) N (zi os) F w0) (z : Int) (hz : U64 z) (w : World)
  (h : MX os w0.heap.size w0 (.pointer (some ⟨gh,0,none⟩)) l sk w) (hs : sk.length <= 5000000) :
  Calls Tryz.prog 105 #[.int .u64 z,.pointer (some ⟨w0.heap.size,0,none⟩),.pointer (some ⟨w0.heap.size + 2,0,none⟩),.pointer (some ⟨w0.heap.size + 3,0,none⟩)] w fun e w' =>
   e = .returned (.tuple #[]) /\ MX os w0.heap.size w0 (.pointer (some ⟨gh,0,none⟩)) (kg os (l,sk) z).1 (kg os (l,sk) z).2 w':=by
 have H:=hid h
 obtain ⟨vs,ln,hL,hM⟩:=h
 have HL:=hid hL
 have HM:=hid hM
 have hp : PH B (.pointer (some ⟨gh,0,none⟩)) N (zi os) F w:=hp0.keep (fun b hf=>hM.bel.block b (hp0.ge b hf).2)
 have hus:=zaq hp
 have hwl:=zh os
 have CA:=hid (zpp z hz w)
 have cb : w.cell? ⟨w0.heap.size,0,none⟩ = some (.pointer (some ⟨gh,0,none⟩)):=za hM.bb 0
 have HRE : Hid (kg os (l,sk) z = match zr os z with
  | none=>(l,sk)
  | some k=>if l.getD k false then (l,sk) else (l.set k true,sk ++ [k])):=rfl
 cases hf : zr os z with
 | none =>
  rw [hf] at HRE
  simp only at HRE
  rw [HRE.out]
  have key : Hid (isR 2 z = false \/ (isR 2 z = true /\ ∃ a : Nat,hasR 2 z = (a : Int) /\ ∃ x,(Calls Tryz.prog 108 #[.pointer (some ⟨gh,0,none⟩),.int .i64 (a : Int)] w fun e w'=>e = .returned (.int .u64 x) /\ w' = w) /\ Calls Tryz.prog 107 #[.int .u64 x] w fun e w'=>e = .returned (.bool false) /\ w' = w)):=by
   cases h2 : isR 2 z
   ·exact .inl rfl
   ·right
    refine ⟨rfl,?_⟩
    rcases zpr ho hus hz hf with h1 | ⟨a,h1,h3⟩
    ·rw [h2] at h1;cases h1
    ·refine ⟨a, h1, ?_⟩
     by_cases ha : a < zc os
     ·refine ⟨_, zej (by omega) w hp, ?_⟩
      have:=zdb ((zi os).getD a 0) (hp.u _ (zq (by omega))) w
      have e8 : isHd ((zi os).getD a 0) = false:=decide_eq_false (by rcases h3 with h3 | h3;omega;exact h3)
      rw [e8] at this
      exact this
     ·refine ⟨0, zps (.inr (by omega)) w hp, ?_⟩
      have:=zdb 0 (by unfold U64;omega) w
      rw [show isHd 0 = false from zpt] at this
      exact this
  obtain ⟨b,hb⟩ : ∃ b,b = w0.heap.size:=⟨_,rfl⟩
  rw [<- hb] at H cb ⊢
  clear hb hp hp0 hL hM HL HM hf HRE
  rcases key.out with h2 | ⟨h2,a,ha,x,hc1,hc2⟩
  ·rw [h2] at CA
   obtain ⟨a,ha⟩ : ∃ a,a = hasR 2 z:=⟨_,rfl⟩
   rw [<- ha] at CA
   clear key ha
   go_enter Tryz.func105,Tryz.ntmps105
   go_wp2_with (go_at_call 106;(with_reducible refine CA.out.mono ?_);rintro e W1 ⟨rfl,hw1⟩;rw [hw1];clear hw1)
   (try simp only [Exit.inBlock,Exit.then]);refine bodyPost_ret (results_none rfl _ _ _) rfl ?_
   exact ⟨rfl,H.out⟩
  ·rw [h2, ha] at CA
   have C1:=hid hc1
   have C2:=hid hc2
   clear key ha hc1 hc2
   go_enter Tryz.func105,Tryz.ntmps105
   go_wp2_with (first
    | (go_at_call 106;(with_reducible refine CA.out.mono ?_);rintro e W1 ⟨rfl,hw1⟩;rw [hw1];clear hw1)
    | (go_at_call 108;(with_reducible refine C1.out.mono ?_);rintro e W1 ⟨rfl,hw1⟩;rw [hw1];clear hw1)
    | (go_at_call 107;(with_reducible refine C2.out.mono ?_);rintro e W1 ⟨rfl,hw1⟩;rw [hw1];clear hw1))
   (try simp only [Exit.inBlock,Exit.then]);refine bodyPost_ret (results_none rfl _ _ _) rfl ?_
   exact ⟨rfl,H.out⟩
 | some k =>
  have hk:=(yc hf).1
  have hlt:=kj hk
  obtain ⟨h1,h2,h3,h4⟩:=zpq ho hus hf
  rw [h1,h2] at CA
  have C1:=hid (zej (k:=atO os k) (by omega) w hp)
  have C2:=hid (zdb ((zi os).getD (atO os k) 0) (hp.u _ (zq (by omega))) w)
  rw [show isHd ((zi os).getD (atO os k) 0) = true from decide_eq_true (by rw [h4])] at C2
  have CL : Hid (∀ wx,Below w.heap.size w wx -> _):=fun wx hb=>zzp ho hk wx (hp.keep (fun b hf=>hb.block b (hp.ge b hf).2))
  have hlen : ln.length = zc os:=hL.len
  have cp : w.cell? ⟨w0.heap.size + 2,0,none⟩ = some (.slice (some ⟨w0.heap.size + 1,0,none⟩) ln.length ln.length):=za hM.bp 0
  have cl:=hM.len (i:=atO os k) (by omega)
  have fl:=zf hM.bl (atO os k)
  rw [hL.yes k hk] at cl
  rw [hf] at HRE
  simp only at HRE
  have HSET:=hid (hL.set hk)
  have HMS:=hid (hM.set (atO os k) ((1 + (os.getD k default).f.length : Nat) : Int))
  obtain ⟨b,hb⟩ : ∃ b,b = w0.heap.size:=⟨_,rfl⟩
  obtain ⟨A,hA⟩ : ∃ x,x = atO os k:=⟨_,rfl⟩
  obtain ⟨m,hm⟩ : ∃ x,x = (os.getD k default).f.length:=⟨_,rfl⟩
  obtain ⟨x,hx⟩ : ∃ x,x = (zi os).getD (atO os k) 0:=⟨_,rfl⟩
  rw [<- hx] at C1 C2
  rw [<- hb] at H HM HMS cb cp cl fl ⊢
  rw [<- hm] at HSET HMS cl CL
  rw [hlen] at cp
  have hUU : A + 1 + m <= zc os:=by rw [hA,hm];exact hlt
  have HAK:=hid hA
  rw [<- hA] at C1 CA CL HSET HMS cl fl
  obtain ⟨us,hus'⟩ : ∃ x,x = zc os:=⟨_,rfl⟩
  rw [<- hus'] at cp hus hUU
  cases hb2 : l.getD k false
  ·rw [hb2] at HRE cl
   have hre : kg os (l,sk) z = (l.set k true,sk ++ [k]):=HRE.out
   rw [hre]
   have cl' : w.cell? ⟨b + 1,A,none⟩ = some (.int .i64 0):=cl
   obtain ⟨n,hn⟩ : ∃ x,x = sk.length:=⟨_,rfl⟩
   rw [<- hn] at hs
   have HN:=hid hn
   obtain ⟨vo,so⟩ : ∃ a c,vs = .slice a n c:=by
    obtain ⟨a,c,e,_⟩:=zll HM.out.so
    rw [List.length_map,<- hn] at e
    exact ⟨a,c,e⟩
   obtain ⟨cs,rfl⟩:=so
   clear hp hp0 hL hM hf HRE hre cl hk hlt h1 h2 h3 h4 hb hA hm hx hlen hwl hb2 hus' hn HL
   go_enter Tryz.func105,Tryz.ntmps105
   go_wp2_with (first
    | (go_at_call 106;(with_reducible refine CA.out.mono ?_);rintro e W1 ⟨rfl,hw1⟩;rw [hw1];clear hw1)
    | (go_at_call 108;(with_reducible refine C1.out.mono ?_);rintro e W1 ⟨rfl,hw1⟩;rw [hw1];clear hw1)
    | (go_at_call 107;(with_reducible refine C2.out.mono ?_);rintro e W1 ⟨rfl,hw1⟩;rw [hw1];clear hw1))
   go_region_with (go_at_call 109;(with_reducible refine (CL.out _ (gf w)).mono ?_);rintro e W1 ⟨rfl,hw1⟩;rw [hw1];clear hw1)
   all_goals
    have hW:=HMS.out.on (gf _)
    rw [show (((1 + m : Nat) : Int)) = 1 + (m : Int) by omega] at hW
    have HLS:=HSET
    rw [show (((1 + m : Nat) : Int)) = 1 + (m : Int) by omega] at HLS
    generalize (w.setCell ⟨b + 1,A,none⟩ (Value.int IntKind.i64 (1 + (m : Int)))).drew = W at *
    generalize ln.set A (1 + (m : Int)) = ln2 at *
    have c3 : W.cell? ⟨b + 3,0,none⟩ = some (.slice vo n cs):=za hW.bs 0
    have H2:=hid (hW.on (Ba W (.cells #[.int .i64 (A : Nat)] 3)))
    have A1 : Hid ((W.alloc (.cells #[.int .i64 (A : Nat)] 3)).ownsRow (b + 4) 3 1 (.slice vo n cs) n (iz (sk.map (fun k=>((atO os k : Nat) : Int))))):=by
     have:=H2.out.so
     rw [List.length_map,<- HN.out] at this
     exact this
    have A2 : Hid ((W.alloc (.cells #[.int .i64 (A : Nat)] 3)).cell? ⟨W.heap.size,0,none⟩ = some (.int .i64 (A : Nat))):=za (zd W #[.int .i64 (A : Nat)] 3) 0
    have A3:=hid H2.out.size
    have HRQ : Hid (((sk.map (fun k=>((atO os k : Nat) : Int))) ++ [(A : Int)]) = (sk ++ [k]).map (fun k=>((atO os k : Nat) : Int))):=by
     unfold Hid;rw [List.map_append,HAK.out];rfl
    clear hW HMS HSET H HM cl' cp cb fl CA C1 C2 CL
    go_wp2_with (at_builtin;refine appi rfl _ _ 32 rfl (b + 4) 3 Tryz.underlying32 zao _ n (sk.map (fun k=>((atO os k : Nat) : Int))) rfl A1.out ⟨W.heap.size,0,none⟩ 1 (A : Nat) rfl A2.out (by omega) A3.out ?_;intro g cap w3 ho3 hg3 hl3 hlt3;rw [HRQ.out] at ho3;have hln : ((sk ++ [k]).map (fun k=>((atO os k : Nat) : Int))).length = n + 1:=(by rw [List.length_map,List.length_append,<- HN.out];rfl);obtain ⟨h4,c4,f4⟩:=H2.out.turn (vs':=.slice (some ⟨g,0,none⟩) (n + 1) cap) (st':=(sk ++ [k]).map (fun k=>((atO os k : Nat) : Int))) hg3 (by rw [hln];exact ho3);have H4:=hid h4;clear ho3 hg3 hl3 h4 hln)
    go_end0
    exact ⟨rfl,_,_,HLS.out,H4.out⟩
  ·rw [hb2] at HRE cl
   have hre : kg os (l,sk) z = (l,sk):=HRE.out
   rw [hre]
   have cl' : w.cell? ⟨b + 1,A,none⟩ = some (.int .i64 ((1 + m : Nat) : Int)):=cl
   clear hp hp0 hL hM HL HM hf HRE hre cl hk hlt h1 h2 h3 h4 hb hA hm hx hlen hwl hb2 HSET HMS hus'
   go_enter Tryz.func105,Tryz.ntmps105
   go_wp2_with (first
    | (go_at_call 106;(with_reducible refine CA.out.mono ?_);rintro e W1 ⟨rfl,hw1⟩;rw [hw1];clear hw1)
    | (go_at_call 108;(with_reducible refine C1.out.mono ?_);rintro e W1 ⟨rfl,hw1⟩;rw [hw1];clear hw1)
    | (go_at_call 107;(with_reducible refine C2.out.mono ?_);rintro e W1 ⟨rfl,hw1⟩;rw [hw1];clear hw1))
   (try simp only [Exit.inBlock,Exit.then]);refine bodyPost_ret (results_none rfl _ _ _) rfl ?_
   exact ⟨rfl,H.out⟩
end
theorem zzq {os : List Ob} {w W1 W2 W3 W4 : World} {v : Value} {us : Nat} (hu : us = zc os) (h1 : W1 = w.alloc (.cells #[v] 25)) (h2 : W2 = W1.alloc (.cells (madeCells #[.int .i64 0] us) 3)) (h3 : W3 = W2.alloc (.cells #[.slice (some ⟨w.heap.size + 1,0,none⟩) us us] 32)) (h4 : W4 = W3.alloc (.cells #[.slice none 0 0] 32)) :
  MX os w.heap.size w v (List.replicate os.length false) [] W4:=by
 subst hu
 have s1 : W1.heap.size = w.heap.size + 1:=by rw [h1];simp
 have s2 : W2.heap.size = w.heap.size + 2:=by rw [h2];simp [s1]
 have s3 : W3.heap.size = w.heap.size + 3:=by rw [h3];simp [s2]
 have b1 : Below w.heap.size w W1:=by rw [h1];exact Ba _ _
 have b2 : Below (w.heap.size + 1) W1 W2:=by rw [h2,<- s1];exact Ba _ _
 have b3 : Below (w.heap.size + 2) W2 W3:=by rw [h3,<- s2];exact Ba _ _
 have b4 : Below (w.heap.size + 3) W3 W4:=by rw [h4,<- s3];exact Ba _ _
 have n1 : W1.heap[w.heap.size]? = some (.cells #[v] 25 (0,0)):=by rw [h1];exact zd _ _ _
 have n2 : W2.heap[w.heap.size + 1]? = some (.cells (madeCells #[.int .i64 0] (zc os)) 3 (0,0)):=by rw [h2,<- s1];exact zd _ _ _
 have n3 : W3.heap[w.heap.size + 2]? = some (.cells #[.slice (some ⟨w.heap.size + 1,0,none⟩) (zc os) (zc os)] 32 (0,0)):=by rw [h3,<- s2];exact zd _ _ _
 have n4 : W4.heap[w.heap.size + 3]? = some (.cells #[.slice none 0 0] 32 (0,0)):=by rw [h4,<- s3];exact zd _ _ _
 have e : madeCells #[.int .i64 0] (zc os) = (iz (List.replicate (zc os) 0)).toArray:=by
  rw [<- Array.toArray_toList (xs:=madeCells #[.int .i64 0] (zc os)),toList_madeCells_one];simp [iz]
 rw [e] at n2
 have e1 : W4.heap[w.heap.size]? = W1.heap[w.heap.size]?:=(b4.block _ (by omega)).trans ((b3.block _ (by omega)).trans (b2.block _ (by omega)))
 have e2 : W4.heap[w.heap.size + 1]? = W2.heap[w.heap.size + 1]?:=(b4.block _ (by omega)).trans (b3.block _ (by omega))
 have e3 : W4.heap[w.heap.size + 2]? = W3.heap[w.heap.size + 2]?:=b4.block _ (by omega)
 refine ⟨.slice none 0 0,List.replicate (zc os) 0,Lens.start os,b1.trans ((b2.mono (by omega)).trans ((b3.mono (by omega)).trans (b4.mono (by omega)))),e1.trans n1,e2.trans n2,?_,n4,World.ownsRow_nil _ _ _ _⟩
 rw [List.length_replicate]
 exact e3.trans n3
theorem zlm {l : List Int} {j : Nat} (h : j < l.length) : l.drop j = l.getD j 0 :: l.drop (j + 1):=by
 rw [List.drop_eq_getElem_cons h,List.getD_eq_getElem?_getD,List.getElem?_eq_getElem h];rfl
theorem zrx (w : World) (r : Option Nat) : w.grownBy w r:=⟨rfl,rfl,rfl,Nat.le_refl _,fun _ _ _=>rfl⟩
section
variable {B : Nat} {v : Value} {N : Int} {F : Nat -> Prop} {os : List Ob}
set_option maxHeartbeats 16000000 in
theorem zzr (ho : OsOk os) (ro : Option Addr) (nr cr : Nat) (rs : List Int) (w : World) (h : PH B v N (zi os) F w) (R : URow w ro nr cr rs) :
  Calls Tryz.prog 61 #[v,.slice ro nr cr] w fun e w'=>∃ g ln,e = .returned (.slice (some ⟨g,0,none⟩) (zc os) (zc os)) /\ w.heap.size <= g /\ Lens os (lvL os rs) ln /\ w'.heap[g]? = some (.cells (iz ln).toArray 3 (0,0)) /\ Below w.heap.size w w':=by
 have hus:=zaq h
 have hwl:=zh os
 have H:=hid h
 have HR:=hid R
 have hrl:=R.len
 have hrf:=R.fits
 have hrx:=R.most
 unfold maxLen at hrx
 obtain ⟨gh,rfl⟩:=h.ptr
 have CU : Hid (∀ wx,Below w.heap.size w wx -> Calls Tryz.prog 48 #[.pointer (some ⟨gh,0,none⟩)] wx fun e w'=>e = .returned (.int .i64 (zc os : Nat)) /\ w' = wx):=fun wx hb=>by
  have:=zli wx (H.out.keep (fun b hf=>hb.block b (H.out.ge b hf).2))
  rw [hwl] at this
  exact this
 have CR : Hid (∀ z,U64 z -> ∀ l sk wx,MX os w.heap.size w (.pointer (some ⟨gh,0,none⟩)) l sk wx -> sk.length <= 5000000 -> _):=fun z hz l sk wx hm hs=>zwc ho w H.out z hz wx hm hs
 clear h R
 obtain ⟨us,hu⟩ : ∃ x,x = zc os:=⟨_,rfl⟩
 rw [<- hu] at CU hus ⊢
 have HU:=hid hu
 clear hu hwl
 have hmk:=fun wx=>run_make_row' (P:=Tryz.prog) 32 3 (.int .i64 0) 8 Tryz.underlying32 zao rfl .i64 .i64 us (by omega) (by omega) wx
 have HB0 : Hid (Below w.heap.size w (w.alloc (.cells #[.pointer (some ⟨gh,0,none⟩)] 25))):=Ba _ _
 go_enter Tryz.func61,Tryz.ntmps61
 go_wp2_with (go_at_call 48;(with_reducible refine (CU.out _ HB0.out).mono ?_);rintro e W1 ⟨rfl,hw1⟩;rw [hw1];clear hw1)
 clear hmk CU HB0
 have HST : Hid (MX os w.heap.size w (.pointer (some ⟨gh,0,none⟩)) (List.replicate os.length false) [] ((((w.alloc (.cells #[.pointer (some ⟨gh,0,none⟩)] 25)).alloc (.cells (madeCells #[.int .i64 0] us) 3)).alloc (.cells #[.slice (some ⟨w.heap.size + 1,0,none⟩) us us] 32)).alloc (.cells #[.slice none 0 0] 32))):=zzq HU.out rfl rfl rfl rfl
 generalize ((((w.alloc (.cells #[.pointer (some ⟨gh,0,none⟩)] 25)).alloc (.cells (madeCells #[.int .i64 0] us) 3)).alloc (.cells #[.slice (some ⟨w.heap.size + 1,0,none⟩) us us] 32)).alloc (.cells #[.slice none 0 0] 32)) = WS at *
 have CR2 : Hid (∀ z,U64 z -> ∀ l sk wx,MX os w.heap.size w (.pointer (some ⟨gh,0,none⟩)) l sk wx -> sk.length <= 5000000 -> Calls Tryz.prog 105 #[.int .u64 z,.pointer (some ⟨w.heap.size,0,none⟩),.pointer (some ⟨w.heap.size + 1 + 1,0,none⟩),.pointer (some ⟨w.heap.size + 1 + 1 + 1,0,none⟩)] wx fun e w'=>e = .returned (.tuple #[]) /\ MX os w.heap.size w (.pointer (some ⟨gh,0,none⟩)) (kg os (l,sk) z).1 (kg os (l,sk) z).2 w'):=CR.out
 clear CR
 obtain ⟨g2,hg2⟩ : ∃ g,g = w.heap.size + 1 + 1:=⟨_,rfl⟩
 rw [<- hg2] at CR2
 rw [<- hg2]
 have HG2 : Hid (g2 = w.heap.size + 2):=hg2
 clear hg2
 have HOL : Hid (os.length <= 4194304):=Nat.le_trans (zfr os) (by rw [<- HU.out];exact hus)
 have HRL:=hid hrl
 go_loopw [19] (fun i wr=>∃ q : Nat,q <= nr /\ i = .int .i64 q /\ Hid (∃ l sk,RI os rs (rs.drop q) l sk /\ MX os w.heap.size w (.pointer (some ⟨gh,0,none⟩)) l sk wr)) (fun i _=>nr - (intOf i).toNat)
 case atStart=>exact ⟨0,Nat.zero_le _,rfl,_,_,RI.start os rs,HST.out⟩
 case round =>
  clear HST
  obtain ⟨q,hq,rfl,hI⟩:=hrel
  obtain ⟨l,sk,hRI,hMX⟩:=hI.out
  have HI:=hid hRI
  have HX:=hid hMX
  clear hI hRI hMX
  by_cases hlt : q < nr
  ·obtain ⟨bb, oo, rfl, hlb, hcc⟩ := HR.out.some (by omega)
   obtain ⟨vs,ln,hL,hM⟩:=HX.out
   have hck:=(hM.bel.cell (p:=⟨bb,oo + q,none⟩) hlb).trans (hcc q hlt)
   have hzu:=HR.out.bd _ (zq (l:=rs) (i:=q) (by have:=HRL.out;omega))
   have C1:=hid (CR2.out _ hzu l sk wr HX.out (by have:=HI.out.cnt;have:=HOL.out;omega))
   have HD : Hid (rs.drop q = rs.getD q 0 :: rs.drop (q + 1)):=by
    exact zlm (by have:=HRL.out;omega)
   obtain ⟨z,hz⟩ : ∃ z,z = rs.getD q 0:=⟨_,rfl⟩
   rw [<- hz] at hck C1 HD
   clear hcc hzu hz hL hM
   go_wp2_with (go_at_call 105;(with_reducible refine C1.out.mono ?_);rintro e W1 ⟨rfl,h1⟩;have H1:=hid h1;clear h1)
   have hr:=HI.out
   rw [HD.out] at hr
   exact ⟨⟨q + 1,by omega,by go_num,_,_,hr.reach.1,H1.out⟩,by simp [intOf] <;> omega⟩
  ·obtain rfl : q = nr := by omega
   have HD : Hid (rs.drop q = []):=List.drop_eq_nil_of_le (by have:=HRL.out;omega)
   rw [HD.out] at HI
   clear HD
   go_wp2_with fail
   go_loopg [10] (2 * cntB l + sk.length + 1) (fun gk v wr=>Hid (∃ l sk,RI os rs [] l sk /\ MX os w.heap.size w (.pointer (some ⟨gh,0,none⟩)) l sk wr /\ 2 * cntB l + sk.length < gk))
   case atStart=>exact ⟨l,sk,HI.out,HX.out,by omega⟩
   case round =>
    clear HI HX
    obtain ⟨l,sk,hRI,hMX,hgk⟩:=hrel.out
    clear hrel
    rcases List.eq_nil_or_concat sk with hsk | ⟨sk0,k,hsk⟩
    ·subst hsk
     obtain ⟨vs,ln,hL,hM⟩:=hMX
     have hlv:=hRI.done
     rw [hlv] at hL
     have HL:=hid hL
     have HM:=hid hM
     have hvs : vs = .slice none 0 0 \/ ∃ a c,vs = .slice (some a) 0 c:=by
      rcases hM.so.2 with ⟨e,_⟩ | ⟨g,cap,cur,e,_⟩
      ·exact .inl e
      ·exact .inr ⟨_,_,e⟩
     have cs : wr.cell? ⟨g2 + 1,0,none⟩ = some vs:=by rw [HG2.out];exact za hM.bs 0
     have cp : wr.cell? ⟨g2,0,none⟩ = some (.slice (some ⟨w.heap.size + 1,0,none⟩) us us):=by
      have:=za hM.bp 0
      rw [hL.len,<- HU.out] at this
      rw [HG2.out];exact this
     clear hlv hL hM hRI
     have fin : Hid (∃ g ln,Ending.returned (.slice (some ⟨w.heap.size + 1,0,none⟩) us us) = .returned (.slice (some ⟨g,0,none⟩) us us) /\ w.heap.size <= g /\ Lens os (lvL os rs) ln /\ wr.heap[g]? = some (.cells (iz ln).toArray 3 (0,0)) /\ Below w.heap.size w wr) :=
      ⟨_,ln,rfl,by omega,HL.out,HM.out.bl,HM.out.bel⟩
     rcases hvs with rfl | ⟨a,c,rfl⟩
     ·go_wp2_with fail
      go_ret
      exact fin.out
     ·go_wp2_with fail
      go_ret
      exact fin.out
    ·rw [List.concat_eq_append] at hsk
     subst hsk
     obtain ⟨hRI0,hk,hkl⟩:=hRI.pop
     obtain ⟨vs,ln,hL,hM⟩:=hMX
     have hln : (sk0 ++ [k]).length = sk0.length + 1:=by rw [List.length_append];rfl
     have hso:=hM.so
     rw [List.length_map,hln,List.map_append] at hso
     obtain ⟨a,c,rfl,hc1,hc2⟩:=zll hso
     obtain ⟨ho1,_,_,g,rfl,hcl⟩:=zdu1 hso
     have cs : wr.cell? ⟨g2 + 1,0,none⟩ = some (.slice (some ⟨g,0,none⟩) (sk0.length + 1) c):=by rw [HG2.out];exact za hM.bs 0
     obtain ⟨h5,_,f5⟩:=hM.turn (vs':=.slice (some ⟨g,0,none⟩) sk0.length c) (st':=sk0.map (fun k=>((atO os k : Nat) : Int))) (zrx wr _) (by rw [List.length_map];exact ho1)
     have e3 : w.heap.size + 3 = g2 + 1:=by rw [HG2.out]
     rw [e3] at h5 f5
     have hX5 : MX os w.heap.size w (.pointer (some ⟨gh,0,none⟩)) l sk0 (wr.setCell ⟨g2 + 1,0,none⟩ (.slice (some ⟨g,0,none⟩) sk0.length c)):=⟨_,_,hL,h5⟩
     have H5:=hid hX5
     have HI:=hid hRI0
     have HGK : Hid (2 * cntB l + sk0.length + 1 < gk):=by unfold Hid;rw [hln] at hgk;omega
     have HKL:=hid hkl
     have HK:=hid hk
     have hlt2 : atO os k + 1 + (os.getD k default).f.length <= us:=by rw [HU.out];exact kj hk
     have hnl : sk0.length <= 4194304:=by have:=hRI0.cnt;have:=HOL.out;omega
     obtain ⟨n,hn⟩ : ∃ x,x = sk0.length:=⟨_,rfl⟩
     obtain ⟨A,hA⟩ : ∃ x,x = atO os k:=⟨_,rfl⟩
     obtain ⟨m,hm⟩ : ∃ x,x = (os.getD k default).f.length:=⟨_,rfl⟩
     rw [<- hn] at cs hcl H5 hc1 hnl
     replace hcl : wr.cell? ⟨g,n,none⟩ = some (.int .i64 (atO os k : Nat)):=hcl
     rw [<- hA] at hcl hlt2
     rw [<- hm] at hlt2
     have HN:=hid hn
     have HA:=hid hA
     have HMM:=hid hm
     clear hRI hRI0 hL hM hso ho1 hn hA hm hkl hk h5 hX5 e3 hgk hln
     have CW : Hid (∀ j,j < m -> ∀ wx,Below w.heap.size w wx -> Calls Tryz.prog 108 #[.pointer (some ⟨gh,0,none⟩),.int .i64 ((A : Int) + 1 + (j : Int))] wx fun e w'=>e = .returned (.int .u64 ((os.getD k default).f.getD j 0)) /\ w' = wx):=fun j hj wx hb=>by
      have hj2 : j < (os.getD k default).f.length:=by rw [<- HMM.out];exact hj
      have:=zej (k:=atO os k + 1 + j) (by rw [zh];have:=kj HK.out;omega) wx (H.out.keep (fun b hf=>hb.block b (H.out.ge b hf).2))
      rw [xb HK.out hj2] at this
      rw [show (A : Int) + 1 + (j : Int) = ((atO os k + 1 + j : Nat) : Int) by rw [HA.out];omega]
      exact this
     go_wp2_with fail
     clear cs hcl f5
     generalize wr.setCell ⟨g2 + 1,0,none⟩ (Value.slice (some ⟨g,0,none⟩) n c) = W5 at *
     go_loopw [12] (fun i wy=>∃ j : Nat,j <= m /\ i = .int .i64 ((A : Int) + 1 + (j : Int)) /\ Hid (∃ l' sk',RI os rs ((os.getD k default).f.drop j) l' sk' /\ MX os w.heap.size w (.pointer (some ⟨gh,0,none⟩)) l' sk' wy /\ l'.getD k false = true /\ 2 * cntB l' + sk'.length + 1 < gk)) (fun i _=>m - (intOf i - (A : Int) - 1).toNat)
     case atStart=>exact ⟨0,Nat.zero_le _,by simp,l,sk0,HI.out,H5.out,HKL.out,HGK.out⟩
     case round =>
      clear HI H5 HKL HGK
      obtain ⟨j,hj,rfl,hI⟩:=hrel
      obtain ⟨l',sk',hRI,hMX,hkl,hgk⟩:=hI.out
      have HI:=hid hRI
      have HX:=hid hMX
      have HKL:=hid hkl
      have HGK:=hid hgk
      obtain ⟨vs,ln,hL,hM⟩:=hMX
      have HBW:=hid hM.bel
      have cb : wr.cell? ⟨w.heap.size,0,none⟩ = some (.pointer (some ⟨gh,0,none⟩)):=za hM.bb 0
      have cp : wr.cell? ⟨g2,0,none⟩ = some (.slice (some ⟨w.heap.size + 1,0,none⟩) us us):=by
       have:=za hM.bp 0
       rw [hL.len,<- HU.out] at this
       rw [HG2.out];exact this
      have cl : wr.cell? ⟨w.heap.size + 1,A,none⟩ = some (.int .i64 (1 + (m : Int))):=by
       have:=hM.len (i:=A) (by rw [hL.len,<- HU.out];omega)
       rw [this,HA.out,hL.yes k HK.out,hkl,if_pos rfl,<- HMM.out]
       simp
      clear hI hRI hL hM hkl hgk
      by_cases hlt3 : j < m
      ·have hzu : Hid (U64 ((os.getD k default).f.getD j 0)) := ho.uf _ (yi HK.out) _ (zq (by rw [<- HMM.out]; exact hlt3))
       have C1:=hid (CW.out j hlt3 wr HBW.out)
       have C2:=hid (CR2.out _ hzu.out l' sk' wr HX.out (by have:=HI.out.cnt;have:=HOL.out;omega))
       have HD : Hid ((os.getD k default).f.drop j = (os.getD k default).f.getD j 0 :: (os.getD k default).f.drop (j + 1)):=by
        exact zlm (by rw [<- HMM.out];exact hlt3)
       obtain ⟨z,hz⟩ : ∃ z,z = (os.getD k default).f.getD j 0:=⟨_,rfl⟩
       rw [<- hz] at C1 C2 HD
       clear hz hzu
       go_wp2_with (first
        | (go_at_call 108;(with_reducible refine C1.out.mono ?_);rintro e W1 ⟨rfl,hw1⟩;rw [hw1];clear hw1)
        | (go_at_call 105;(with_reducible refine C2.out.mono ?_);rintro e W1 ⟨rfl,h1⟩;have H1:=hid h1;clear h1))
       have hr:=HI.out
       rw [HD.out] at hr
       refine ⟨⟨j + 1,by omega,by go_num,_,_,hr.reach.1,H1.out,znv HKL.out hr.mks.len,?_⟩,by simp [intOf] <;> omega⟩
       have:=hr.reach.2
       have:=HGK.out
       omega
      ·have hjm : m <= j := by omega
       have HD : Hid ((os.getD k default).f.drop j = []):=List.drop_eq_nil_of_le (by rw [<- HMM.out];omega)
       go_wp2_with fail
       have hr:=HI.out
       rw [HD.out] at hr
       have hgk:=HGK.out
       go_roundg (gk - 1)
       case measure=>omega
       case rel=>exact ⟨l',sk',hr,HX.out,by omega⟩
end
end Go.Proofs.YticimejfjjmikaaGreatDoor
