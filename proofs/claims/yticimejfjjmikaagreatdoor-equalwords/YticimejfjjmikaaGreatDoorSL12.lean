import Derived.Test.YticimejfjjmikaaGreatDoorSL31
set_option linter.unusedVariables false
set_option linter.unusedSimpArgs false
set_option maxRecDepth 100000
namespace Go.Proofs.YticimejfjjmikaaGreatDoor
open Go.RowKit
section
variable {B : Nat} {v vn : Value} {N : Int} {os : List Ob} {nm : List ByteArray} {F : Nat -> Prop} {w W : World}
theorem pn_alloc_at (h : PN B v vn N os nm F w) (hb : Below w.heap.size w W) (hB : B <= w.heap.size) {kind P : Int} {fl : List Int} {os' : List Ob} (hk : Z64 kind) (hal : allocM os N kind fl = (P,0)) (hao : allocO os N kind fl = os') (ho : OsOk os') {vr : Value} {b1 : Nat} (own : W.ownsRow b1 44 1 vr fl.length (uz fl)) (hb1 : w.heap.size <= b1) (hu : ∀ z∈fl,U64 z) (hl : fl.length <= 1000000) :
  Calls Tryz.prog 47 #[v,.int .i64 kind,vr] W fun e w'=>e = .returned (.tuple #[.int .u64 P,.int .i64 0]) /\ PNPost B v vn N F w os' nm w':=by
 obtain ⟨ao,cap,rfl,R⟩:=urow_own own hu
 have:=pn_alloc (h.on hb) kind hk ao fl.length cap fl R (Nat.le_trans hB hb.size) (fun a e hf=>by
  have h1:=(own.lt a.block (by rw [e];rfl)).1
  have h2:=(h.ge _ hf).2
  omega) hl (by rw [hao];exact ho)
 rw [hal,hao] at this
 refine this.mono ?_
 rintro e w' ⟨rfl,p⟩
 exact ⟨rfl,p.front hb⟩
theorem pn_fill_at (h : PN B v vn N os nm F w) (hb : Below w.heap.size w W) (hB : B <= w.heap.size) {kind P : Int} {n : Nat} {os' : List Ob} (hk : 1 <= kind /\ kind <= 22) (hal : allocM os N kind (List.replicate n 2) = (P,0)) (hao : allocO os N kind (List.replicate n 2) = os') (ho : OsOk os') (hn : n <= 1000000) :
  Calls Tryz.prog 34 #[v,.int .i64 kind,.int .i64 n,.int .u64 2] W fun e w'=>e = .returned (.tuple #[.int .u64 P,.int .i64 0]) /\ PNPost B v vn N F w os' nm w':=by
 have e1 : fillP os N kind (n : Nat) 2 = (P,0):=by
  unfold fillP
  rw [if_neg (by omega),if_neg (by omega),Int.toNat_natCast];exact hal
 have e2 : fillQ os N kind (n : Nat) 2 = os':=by
  unfold fillQ
  rw [e1,if_pos rfl,Int.toNat_natCast,<- hao]
  unfold allocO
  rw [hal,if_pos rfl]
 have:=pn_fill (h.on hb) kind (n : Nat) 2 (by unfold Z64;omega) (by unfold Z64;omega) (by unfold U64;omega) (Nat.le_trans hB hb.size) (by rw [e2];exact ho)
 rw [e1,e2] at this
 refine this.mono ?_
 rintro e w' ⟨rfl,p⟩
 exact ⟨rfl,p.front hb⟩
theorem plainN_o {d : Nd} (h : d.kind ≠ 6) : plainN nm d = nm:=by unfold plainN;rw [if_neg h]
set_option maxHeartbeats 8000000 in
theorem lay_any (d : Nd) (ka : Option Addr) (kc : Nat) (w : World) (h : PN B v vn N os nm F w) (hd : LNd d) (hn2 : d.kind = 2 -> d.num = 0 \/ d.num = 1) (hn4 : d.kind = 4 -> letB d.num = true) (hkk : d.kids.length <= kc) (hkc : kc <= 9223372036854775807) (hB : B <= w.heap.size) (hnm : nm.length <= 1000000)
  (P : Int) (os' : List Ob) (ho : OsOk os') (hz : 0 < sizeN d -> allocM os N (fieldsK d) (nullF d) = (P,0) /\ allocO os N (fieldsK d) (nullF d) = os') (h0 : ¬ 0 < sizeN d -> os' = os /\ P = plainWd nm d) :
  Calls Tryz.prog 143 #[v,vn,NdVal d ka kc] w fun e w'=>e = .returned (.int .u64 P) /\ PNPost B v vn N F w os' (plainN nm d) w':=by
 have HB:=hid (Ba w (.cells #[.int .i64 d.kind,.int .i64 d.num,.string d.text,.slice ka d.kids.length kc] 54))
 have hx:=blk_new w #[.int .i64 d.kind,.int .i64 d.num,.string d.text,.slice ka d.kids.length kc] 54
 have HH:=hid h
 have HO:=hid ho
 have HZ:=hid hz
 have H0:=hid h0
 have HP:=hid hd.c.int_
 have HV:=hid hd.tv
 have hge:=hd.sz
 have hkd:=hd.c.kind
 have htx:=hd.c.text
 have hks:=hd.c.kids
 have hnu:=hd.c.num
 have HN2:=hid hn2
 have HN4:=hid hn4
 have hneg:=size_neg hd.c
 have HBB:=hid hB
 obtain ⟨gh,gp,rfl,rfl⟩:=h.ptrs
 unfold NdVal
 clear hd h ho hz h0 hn2 hn4 hB
 obtain ⟨dk,dn,dt,dl⟩:=d
 simp only at HB HZ H0 HP HV htx hkk hks hkd hx hneg hnu HN2 HN4 ⊢
 have c0 : (w.alloc (.cells #[.int .i64 dk,.int .i64 dn,.string dt,.slice ka dl.length kc] 54)).cell? ⟨w.heap.size,0,none⟩ = some (.int .i64 dk):=blk_cell hx 0
 have c1 : (w.alloc (.cells #[.int .i64 dk,.int .i64 dn,.string dt,.slice ka dl.length kc] 54)).cell? ⟨w.heap.size,1,none⟩ = some (.int .i64 dn):=blk_cell hx 1
 have c2 : (w.alloc (.cells #[.int .i64 dk,.int .i64 dn,.string dt,.slice ka dl.length kc] 54)).cell? ⟨w.heap.size,2,none⟩ = some (.string dt):=blk_cell hx 2
 have c3 : (w.alloc (.cells #[.int .i64 dk,.int .i64 dn,.string dt,.slice ka dl.length kc] 54)).cell? ⟨w.heap.size,3,none⟩ = some (.slice ka dl.length kc):=blk_cell hx 3
 obtain ⟨kn,hkn⟩ : ∃ n,n = dl.length:=⟨_,rfl⟩
 rw [<- hkn] at HB c0 c1 c2 c3 hkk hks ⊢
 have HKN:=hid hkn
 have same : Hid (∀ W,Below w.heap.size w W -> PNPost B (.pointer (some ⟨gh,0,none⟩)) (.pointer (some ⟨gp,0,none⟩)) N F w os nm W):=fun W hb=>PNPost.same HH.out hb
 clear hx hkn
 by_cases k1 : dk = 1
 ·subst k1
  obtain ⟨rfl,rfl⟩:=H0.out (by unfold sizeN;rw [if_pos (by simp)];omega)
  rw [plainN_o (by simp)]
  have e : plainWd nm ⟨1,dn,dt,dl⟩ = 2:=rfl
  rw [e]
  clear hneg hge e
  go_enter Tryz.func143,Tryz.ntmps143
  go_wp2_with fail
  go_ret
  exact ⟨rfl,same.out _ HB.out⟩
 by_cases k2 : dk = 2
 ·subst k2
  obtain ⟨rfl,rfl⟩:=H0.out (by unfold sizeN;rw [if_pos (by simp)];omega)
  rw [plainN_o (by simp)]
  have C : Hid (∀ (b : Bool) W,Calls Tryz.prog 174 #[.bool b] W fun e w'=>e = .returned (.int .u64 (if b then 18 else 10)) /\ w' = W):=fun b W=>bool_any b W
  rcases HN2.out rfl with rfl | rfl
  ·have e : plainWd nm ⟨2, 0, dt, dl⟩ = 10 := rfl
   rw [e]
   have C2:=hid (C.out false)
   clear hneg hge e
   go_enter Tryz.func143,Tryz.ntmps143
   go_wp2_with (go_at_call 174;(refine (C2.out _).mono ?_);rintro e W2 ⟨rfl,hw2⟩;rw [hw2];clear hw2)
   go_ret
   exact ⟨rfl,same.out _ HB.out⟩
  ·have e : plainWd nm ⟨2, 1, dt, dl⟩ = 18 := rfl
   rw [e]
   have C2:=hid (C.out true)
   clear hneg hge e
   go_enter Tryz.func143,Tryz.ntmps143
   go_wp2_with (go_at_call 174;(refine (C2.out _).mono ?_);rintro e W2 ⟨rfl,hw2⟩;rw [hw2];clear hw2)
   go_ret
   exact ⟨rfl,same.out _ HB.out⟩
 by_cases k10 : dk = 10
 ·subst k10
  obtain ⟨rfl,rfl⟩:=H0.out (by unfold sizeN;rw [if_pos (by simp)];omega)
  rw [plainN_o (by simp)]
  have e : plainWd nm ⟨10,dn,dt,dl⟩ = 26:=rfl
  rw [e]
  clear hneg hge e
  go_enter Tryz.func143,Tryz.ntmps143
  go_wp2_with fail
  go_ret
  exact ⟨rfl,same.out _ HB.out⟩
 by_cases k11 : dk = 11
 ·subst k11
  obtain ⟨rfl,rfl⟩:=H0.out (by unfold sizeN;rw [if_pos (by simp)];omega)
  rw [plainN_o (by simp)]
  have e : plainWd nm ⟨11,dn,dt,dl⟩ = 34:=rfl
  rw [e]
  clear hneg hge e
  go_enter Tryz.func143,Tryz.ntmps143
  go_wp2_with fail
  go_ret
  exact ⟨rfl,same.out _ HB.out⟩
 by_cases k4 : dk = 4
 ·subst k4
  obtain ⟨rfl,rfl⟩:=H0.out (by unfold sizeN;rw [if_pos (by simp)];omega)
  rw [plainN_o (by simp)]
  have e : plainWd nm ⟨4,dn,dt,dl⟩ = wordR 4 dn 0:=rfl
  rw [e]
  have C : Hid (∀ W,Calls Tryz.prog 176 #[.int .i64 dn] W fun e w'=>e = .returned (.tuple #[.int .u64 (wordR 4 dn 0),.bool (rightB 4 dn 0)]) /\ w' = W):=fun W=>char_any dn (by unfold Z64;omega) W
  obtain ⟨x,hx⟩ : ∃ x,x = wordR 4 dn 0:=⟨_,rfl⟩
  obtain ⟨y,hy⟩ : ∃ x,x = rightB 4 dn 0:=⟨_,rfl⟩
  rw [<- hx] at C ⊢
  rw [<- hy] at C
  clear hneg hge e hx hy
  go_enter Tryz.func143,Tryz.ntmps143
  go_wp2_with (go_at_call 176;(with_reducible refine (C.out _).mono ?_);rintro e W2 ⟨rfl,hw2⟩;rw [hw2];clear hw2)
  go_ret
  exact ⟨rfl,same.out _ HB.out⟩
 by_cases k6 : dk = 6
 ·subst k6
  obtain ⟨rfl,rfl⟩:=H0.out (by unfold sizeN;rw [if_pos (by simp)];omega)
  have e : plainWd nm ⟨6,dn,dt,dl⟩ = wordR 5 ((idM nm dt : Nat) : Int) 0:=rfl
  have e' : plainN nm ⟨6,dn,dt,dl⟩ = idL nm dt:=rfl
  rw [e,e']
  have C:=hid (pname_word (HH.out.on HB.out) dt (Nat.le_trans HBB.out HB.out.size) hnm (by omega))
  obtain ⟨x,hx⟩ : ∃ x,x = wordR 5 ((idM nm dt : Nat) : Int) 0:=⟨_,rfl⟩
  rw [<- hx] at C ⊢
  clear hneg hge e e' hx
  go_enter Tryz.func143,Tryz.ntmps143
  go_wp2_with (go_at_call 177;(with_reducible refine C.out.mono ?_);rintro e W2 ⟨rfl,p2⟩;have HP2:=hid (p2.front HB.out);clear p2)
  go_ret
  exact ⟨rfl,HP2.out⟩
 by_cases k3 : dk = 3
 ·subst k3
  rw [plainN_o (by simp)]
  have he : intW os N dt = P /\ intO os N dt = os':=by
   unfold intW intO
   by_cases hf : fixB (txZ dt) = true
   ·rw [if_pos hf, if_pos hf]
    obtain ⟨e1,e2⟩:=H0.out (by unfold sizeN;rw [if_neg (by simp),if_pos rfl,if_pos hf];omega)
    exact ⟨e2.symm,e1.symm⟩
   ·rw [if_neg hf, if_neg hf]
    have:=HZ.out (by unfold sizeN;rw [if_neg (by simp),if_pos rfl,if_neg hf];omega)
    have e3 : nullF ⟨3,dn,dt,dl⟩ = bigL (decide (txZ dt < 0)) (mg (txZ dt).natAbs):=rfl
    have e4 : fieldsK ⟨3,dn,dt,dl⟩ = 5:=rfl
    rw [e3,e4] at this
    exact ⟨by rw [this.1],this.2⟩
  have C:=hid (play_int (HH.out.on HB.out) dt (by omega) (HP.out rfl) (Nat.le_trans HBB.out HB.out.size) (by rw [he.2];exact HO.out))
  rw [he.1,he.2] at C
  clear hneg hge he
  go_enter Tryz.func143,Tryz.ntmps143
  go_wp2_with (go_at_call 175;(with_reducible refine C.out.mono ?_);rintro e W2 ⟨rfl,p2⟩;have HP2:=hid (p2.front HB.out);clear p2)
  go_ret
  exact ⟨rfl,HP2.out⟩
 by_cases k5 : dk = 5
 ·subst k5
  rw [plainN_o (by simp)]
  obtain ⟨e1,e2⟩:=HZ.out (by unfold sizeN;rw [if_neg (by simp),if_neg (by simp),if_pos rfl];omega)
  have e3 : nullF ⟨5,dn,dt,dl⟩ = (ltrs dt).map ltW:=rfl
  have e4 : fieldsK ⟨5,dn,dt,dl⟩ = 3:=rfl
  rw [e3,e4] at e1 e2
  have hll:=ltrs_len dt
  have hlm : ((ltrs dt).map ltW).length = (ltrs dt).length:=List.length_map _
  have C1:=hid (pletters_any dt (by omega) (HV.out rfl) (w.alloc (.cells #[.int .i64 5,.int .i64 dn,.string dt,.slice ka kn kc] 54)))
  have CA : Hid (∀ (vr : Value) (W : World),Below (w.alloc (.cells #[.int .i64 5,.int .i64 dn,.string dt,.slice ka kn kc] 54)).heap.size (w.alloc (.cells #[.int .i64 5,.int .i64 dn,.string dt,.slice ka kn kc] 54)) W -> W.ownsRow (w.alloc (.cells #[.int .i64 5,.int .i64 dn,.string dt,.slice ka kn kc] 54)).heap.size 44 1 vr (ltrs dt).length (uz ((ltrs dt).map ltW)) -> Calls Tryz.prog 47 #[.pointer (some ⟨gh,0,none⟩),.int .i64 3,vr] W fun e w'=>e = .returned (.tuple #[.int .u64 P,.int .i64 0]) /\ PNPost B (.pointer (some ⟨gh,0,none⟩)) (.pointer (some ⟨gp,0,none⟩)) N F w os' nm w'):=fun vr W hb own =>
   pn_alloc_at HH.out (Bt HB.out hb) HBB.out (by unfold Z64;omega) e1 e2 HO.out (by rw [hlm];exact own) HB.out.size (fun z hz=>by obtain ⟨c,_,rfl⟩:=List.mem_map.1 hz;exact wordR_rng _ _ _) (by rw [hlm];omega)
  clear hneg hge e1 e2 e3 e4 hlm hll
  go_enter Tryz.func143,Tryz.ntmps143
  go_wp2_with (first
   | (go_at_call 178;(with_reducible refine C1.out.mono ?_);rintro e W1 ⟨vr,rfl,ho1,b1⟩;have C2:=hid (CA.out vr W1 b1 ho1);clear ho1 b1)
   | (go_at_call 47;(with_reducible refine C2.out.mono ?_);rintro e W2 ⟨rfl,p2⟩;have HP2:=hid p2;clear p2))
  go_ret
  exact ⟨rfl,HP2.out⟩
 by_cases k9 : dk = 9
 ·subst k9
  rw [plainN_o (by simp)]
  obtain ⟨e1,e2⟩:=HZ.out (by unfold sizeN;rw [if_neg (by simp),if_neg (by simp),if_neg (by simp),if_neg (by simp),if_pos rfl];omega)
  have e3 : nullF ⟨9,dn,dt,dl⟩ = bytesL dt dt.size:=rfl
  have e4 : fieldsK ⟨9,dn,dt,dl⟩ = 4:=rfl
  rw [e3,e4] at e1 e2
  have hlm : (bytesL dt dt.size).length = dt.size:=bytesL_len _ _
  have C1:=hid (pbytes_any dt (by omega) (w.alloc (.cells #[.int .i64 9,.int .i64 dn,.string dt,.slice ka kn kc] 54)))
  have CA : Hid (∀ (vr : Value) (W : World),Below (w.alloc (.cells #[.int .i64 9,.int .i64 dn,.string dt,.slice ka kn kc] 54)).heap.size (w.alloc (.cells #[.int .i64 9,.int .i64 dn,.string dt,.slice ka kn kc] 54)) W -> W.ownsRow (w.alloc (.cells #[.int .i64 9,.int .i64 dn,.string dt,.slice ka kn kc] 54)).heap.size 44 1 vr dt.size (uz (bytesL dt dt.size)) -> Calls Tryz.prog 47 #[.pointer (some ⟨gh,0,none⟩),.int .i64 4,vr] W fun e w'=>e = .returned (.tuple #[.int .u64 P,.int .i64 0]) /\ PNPost B (.pointer (some ⟨gh,0,none⟩)) (.pointer (some ⟨gp,0,none⟩)) N F w os' nm w'):=fun vr W hb own =>
   pn_alloc_at HH.out (Bt HB.out hb) HBB.out (by unfold Z64;omega) e1 e2 HO.out (by rw [hlm];exact own) HB.out.size (fun z hz=>by unfold bytesL at hz;obtain ⟨c,_,rfl⟩:=List.mem_map.1 hz;exact wordR_rng _ _ _) (by rw [hlm];omega)
  clear hneg hge e1 e2 e3 e4 hlm
  go_enter Tryz.func143,Tryz.ntmps143
  go_wp2_with (first
   | (go_at_call 179;(with_reducible refine C1.out.mono ?_);rintro e W1 ⟨vr,rfl,ho1,b1⟩;have C2:=hid (CA.out vr W1 b1 ho1);clear ho1 b1)
   | (go_at_call 47;(with_reducible refine C2.out.mono ?_);rintro e W2 ⟨rfl,p2⟩;have HP2:=hid p2;clear p2))
  go_ret
  exact ⟨rfl,HP2.out⟩
 by_cases k7 : dk = 7
 ·subst k7
  rw [plainN_o (by simp)]
  obtain ⟨e1,e2⟩:=HZ.out (size_kids (.inl rfl))
  have e3 : nullF ⟨7,dn,dt,dl⟩ = List.replicate kn 2:=by rw [HKN.out];rfl
  have e4 : fieldsK ⟨7,dn,dt,dl⟩ = 1:=rfl
  rw [e3,e4] at e1 e2
  have C:=hid (pn_fill_at HH.out HB.out HBB.out (kind:=1) (by omega) e1 e2 HO.out (by omega))
  clear hneg hge e1 e2 e3 e4
  go_enter Tryz.func143,Tryz.ntmps143
  go_wp2_with (go_at_call 34;(with_reducible refine C.out.mono ?_);rintro e W2 ⟨rfl,p2⟩;have HP2:=hid p2;clear p2)
  go_ret
  exact ⟨rfl,HP2.out⟩
 by_cases k8 : dk = 8
 ·subst k8
  rw [plainN_o (by simp)]
  obtain ⟨e1,e2⟩:=HZ.out (size_kids (.inr rfl))
  have e3 : nullF ⟨8,dn,dt,dl⟩ = List.replicate kn 2:=by rw [HKN.out];rfl
  have e4 : fieldsK ⟨8,dn,dt,dl⟩ = 2:=rfl
  rw [e3,e4] at e1 e2
  have C:=hid (pn_fill_at HH.out HB.out HBB.out (kind:=2) (by omega) e1 e2 HO.out (by omega))
  clear hneg hge e1 e2 e3 e4
  go_enter Tryz.func143,Tryz.ntmps143
  go_wp2_with (go_at_call 34;(with_reducible refine C.out.mono ?_);rintro e W2 ⟨rfl,p2⟩;have HP2:=hid p2;clear p2)
  go_ret
  exact ⟨rfl,HP2.out⟩
 exfalso
 have:=mt hneg.2
 omega
end
structure LQ (B : Nat) (v vn : Value) (N : Int) (F : Nat -> Prop) (W0 : World) (gw : Nat) (os : List Ob) (nm : List ByteArray) (ws : List Int) (wr : World) : Prop where
 pn : ∃ F',PN B v vn N os nm F' wr /\ (∀ b,F' b -> F b \/ W0.heap.size <= b)
 mod : Mod (fun b=>F b \/ b = gw) W0 wr
 row : wr.heap[gw]? = some (.cells (uz ws).toArray 44 (0,0))
 lt : gw < W0.heap.size
 off : ¬ F gw
section
variable {B : Nat} {v vn : Value} {N : Int} {F : Nat -> Prop} {W0 : World} {gw : Nat} {os os' : List Ob} {nm nm' : List ByteArray} {ws : List Int} {wr w' : World}
theorem LQ.size (h : LQ B v vn N F W0 gw os nm ws wr) : W0.heap.size <= wr.heap.size:=h.mod.size
theorem LQ.on (h : LQ B v vn N F W0 gw os nm ws wr) (hb : Below wr.heap.size wr w') : LQ B v vn N F W0 gw os nm ws w':=by
 obtain ⟨F',h1,h2⟩:=h.pn
 have hs:=h.size
 have hl:=h.lt
 exact ⟨⟨F',h1.on hb,h2⟩,h.mod.trans (Mod.of_below _ hb) (fun _ _ e=>e),(hb.block gw (by omega)).trans h.row,h.lt,h.off⟩
theorem LQ.step (h : LQ B v vn N F W0 gw os nm ws wr) {F' : Nat -> Prop} (hf : ∀ b,F' b -> F b \/ W0.heap.size <= b) (p : PNPost B v vn N F' wr os' nm' w') : LQ B v vn N F W0 gw os' nm' ws w':=by
 obtain ⟨F2,p1,p2,p3⟩:=p
 have hs:=h.size
 have hl:=h.lt
 refine ⟨⟨F2,p1,fun b e=>?_⟩,h.mod.trans p3 (fun b hb e=>?_),(p3.block gw (by omega) (fun e=>?_)).trans h.row,h.lt,h.off⟩
 ·rcases p2 b e with e | e
  ·exact hf b e
  ·exact .inr (by omega)
 ·rcases hf b e with e | e
  ·exact .inl e
  ·omega
 ·rcases hf gw e with e | e
  ·exact h.off e
  ·omega
theorem LQ.put (h : LQ B v vn N F W0 gw os nm ws wr) (k : Nat) (z : Int) : LQ B v vn N F W0 gw os nm (ws.set k z) (wr.setCell ⟨gw,k,none⟩ (.int .u64 z)):=by
 obtain ⟨F',h1,h2⟩:=h.pn
 have hl:=h.lt
 refine ⟨⟨F',h1.keep (fun b e=>Below.heap_setCell _ _ _ _ (fun e2=>?_)),h2⟩,h.mod.setCell (p:=⟨gw,k,none⟩) (.inl (.inr rfl)) _,?_,h.lt,h.off⟩
 ·have e3 : b = gw := e2
  subst e3
  rcases h2 b e with e | e
  ·exact h.off e
  ·omega
 ·rw [blk_set h.row]
  simp [uz,List.map_set]
theorem LQ.cell (h : LQ B v vn N F W0 gw os nm ws wr) {k : Nat} (hk : k < ws.length) : wr.cell? ⟨gw,k,none⟩ = some (.int .u64 (ws.getD k 0)):=by
 rw [blk_cell h.row,List.getElem?_toArray,uz_get hk]
end
theorem plainN_pos {nm : List ByteArray} {d : Nd} (h : 0 < sizeN d) : plainN nm d = nm:=by
 refine plainN_o (fun e=>?_)
 unfold sizeN at h
 rw [if_pos (by omega)] at h
 omega
theorem nulls_ok {os : List Ob} (h : OsOk os) (cs : List Nd) : OsOk (os ++ nullsOf cs):=by
 have hu : ∀ d : Nd,∀ z∈nullF d,U64 z:=fun d z hz=>by
  unfold nullF at hz
  split at hz
  ·obtain ⟨_,rfl⟩:=List.mem_replicate.1 hz;unfold U64;omega
  ·exact fieldsL_u d (fun z h=>by cases h) z hz
 refine ⟨fun x hx=>?_,fun x hx=>?_,fun x hx=>?_⟩ <;> rcases List.mem_append.1 hx with hx | hx
 ·exact h.kd x hx
 ·unfold nullsOf at hx
  obtain ⟨d,_,rfl⟩:=List.mem_map.1 hx
  have:=fieldsK_rng d
  show 1 <= fieldsK d /\ fieldsK d <= 22
  omega
 ·exact h.uf x hx
 ·unfold nullsOf at hx
  obtain ⟨d,_,rfl⟩:=List.mem_map.1 hx
  exact hu d
 ·exact h.nh x hx
 ·unfold nullsOf at hx
  obtain ⟨d,_,rfl⟩:=List.mem_map.1 hx
  exact nullF_nohd d
theorem lay_turn {N : Int} {os : List Ob} {nm : List ByteArray} {cs : List Nd} (h : PutOk N os nm cs) {q : Nat} (hq : q < cs.length) (hz : 0 <= sizeN (cs.getD q default)) :
  ∃ P,putS nm (usedL os) (cs.take (q + 1)) = ⟨(putS nm (usedL os) (cs.take q)).ws ++ [P],plainN (putS nm (usedL os) (cs.take q)).nm (cs.getD q default),(putS nm (usedL os) (cs.take (q + 1))).at_⟩ /\ U64 P /\
   (0 < sizeN (cs.getD q default) -> allocM (os ++ nullsOf (cs.take q)) N (fieldsK (cs.getD q default)) (nullF (cs.getD q default)) = (P,0) /\ allocO (os ++ nullsOf (cs.take q)) N (fieldsK (cs.getD q default)) (nullF (cs.getD q default)) = os ++ nullsOf (cs.take (q + 1))) /\
   (¬ 0 < sizeN (cs.getD q default) -> os ++ nullsOf (cs.take (q + 1)) = os ++ nullsOf (cs.take q) /\ P = plainWd (putS nm (usedL os) (cs.take q)).nm (cs.getD q default)):=by
 by_cases hp : 0 < sizeN (cs.getD q default)
 ·obtain ⟨e1, e2⟩ := null_alloc h hq hp
  refine ⟨_,?_,wordR_rng _ _ _,fun _=>⟨e1,e2⟩,fun hn=>absurd hp hn⟩
  rw [plainN_pos hp,putS_take hq]
  unfold stepP
  rw [if_neg (by omega)]
 ·refine ⟨_, ?_, plainWd_u _ _, fun hn => absurd hn hp, fun _ => ⟨by rw [null_skip hq hp], rfl⟩⟩
  rw [putS_take hq]
  unfold stepP
  rw [if_pos (by omega)]
def Agree (b0 : Nat) (w wx : World) : Prop:=w.heap.size <= wx.heap.size /\ ∀ b,b0 <= b -> b < w.heap.size -> wx.heap[b]? = w.heap[b]?
def junk (w : World) (b : Nat) : World:={ w with heap:=w.heap.setIfInBounds b (.map #[] 0) }
theorem junk_agree {w : World} {b b0 : Nat} (h : b < b0) : Agree b0 w (junk w b):=by
 refine ⟨by unfold junk;simp,fun k hk hl=>?_⟩
 unfold junk
 simp only
 rw [Array.getElem?_setIfInBounds_ne (by omega)]
theorem junk_cell {w : World} {b o : Nat} (h : b < w.heap.size) : (junk w b).cell? ⟨b,o,none⟩ = none:=by
 have e : (junk w b).heap[b]? = some (.map #[] 0):=by
  unfold junk
  simp only
  rw [Array.getElem?_setIfInBounds_self_of_lt h]
 unfold World.cell?
 simp [e]
theorem agree_cell {w wx : World} {b0 b o : Nat} (h : Agree b0 w wx) (h1 : b0 <= b) (h2 : b < w.heap.size) : wx.cell? ⟨b,o,none⟩ = w.cell? ⟨b,o,none⟩:=World.cell?_of_block (a:=⟨b,o,none⟩) (h.2 b h1 h2)
theorem rows_fixed {w : World} {b0 : Nat} {an : Option Addr} {nn cn : Nat} {cs : List Nd} (K : ∀ wx : World,Agree b0 w wx -> NRow wx an nn cn cs) {q : Nat} (hq : q < nn) :
  ∃ b o ak nk ck,an = some ⟨b,o,none⟩ /\ ∀ wx : World,Agree b0 w wx -> wx.cell? ⟨b,o + q * 4,none⟩ = some (.int .i64 (cs.getD q default).kind) /\ wx.cell? ⟨b,o + q * 4 + 1,none⟩ = some (.int .i64 (cs.getD q default).num) /\ wx.cell? ⟨b,o + q * 4 + 2,none⟩ = some (.string (cs.getD q default).text) /\ wx.cell? ⟨b,o + q * 4 + 3,none⟩ = some (.slice ak nk ck) /\ IRow wx ak nk ck (cs.getD q default).kids:=by
 have hw:=K w ⟨Nat.le_refl _,fun _ _ _=>rfl⟩
 obtain ⟨b,o,rfl,hlb,hc⟩:=hw.some (by omega)
 obtain ⟨k1,k2,k3,ak,nk,ck,k4,k5⟩:=hc q hq
 have hb : b0 <= b:=by
  rcases Nat.lt_or_ge b b0 with h | h
  ·exfalso
   obtain ⟨b',o',e',_,hc'⟩:=(K _ (junk_agree h)).some (by omega)
   cases e'
   obtain ⟨j1,_⟩:=hc' q hq
   rw [junk_cell hlb] at j1
   cases j1
  ·exact h
 refine ⟨b,o,ak,nk,ck,rfl,fun wx hx=>?_⟩
 have c0:=agree_cell (o:=o + q * 4) hx hb hlb
 have c1:=agree_cell (o:=o + q * 4 + 1) hx hb hlb
 have c2:=agree_cell (o:=o + q * 4 + 2) hx hb hlb
 have c3:=agree_cell (o:=o + q * 4 + 3) hx hb hlb
 refine ⟨c0.trans k1,c1.trans k2,c2.trans k3,c3.trans k4,?_⟩
 refine ⟨k5.len,k5.fits,k5.most,k5.nil_,k5.bd,?_⟩
 rcases k5.rd with e | ⟨b2,o2,e2,hl2,hc2⟩
 ·exact .inl e
 ·by_cases hk : (cs.getD q default).kids = []
  ·exact .inl hk
  right
  have hb2 : b0 <= b2:=by
   rcases Nat.lt_or_ge b2 b0 with h | h
   ·exfalso
    obtain ⟨b',o',e',_,hc'⟩:=(K _ (junk_agree h)).some (by omega)
    cases e'
    obtain ⟨_,_,_,ak',nk',ck',j4,j5⟩:=hc' q hq
    have j4':=(agree_cell (o:=o + q * 4 + 3) (junk_agree (w:=w) h) hb hlb).symm.trans j4
    rw [k4] at j4'
    cases j4'
    rcases j5.rd with e3 | ⟨b3,o3,e3,_,hc3⟩
    ·exact hk e3
    ·rw [e2] at e3
     cases e3
     have:=hc3 0 (List.length_pos_iff.2 hk)
     rw [junk_cell hl2] at this
     cases this
   ·exact h
  exact ⟨b2,o2,e2,Nat.lt_of_lt_of_le hl2 hx.1,fun i hi=>(agree_cell hx hb2 hl2).trans (hc2 i hi)⟩
theorem kids_kind {n : Nat} {d : Nd} (hn : nodeB n d = true) (hd : LNd d) (hk : d.kids ≠ []) : d.kind = 7 \/ d.kind = 8:=by
 obtain ⟨_,_,_,_,h5,_⟩:=node_parts hn
 have h11 : ¬ 11 < d.kind:=fun h=>by have:=(size_neg hd.c).2 h;have:=hd.sz;omega
 by_cases h7 : d.kind = 7
 ·exact .inl h7
 by_cases h8 : d.kind = 8
 ·exact .inr h8
 exact absurd (no_kids h5 h7 (by omega) h8 (by omega) (by omega)) hk
def inO (ws : List Int) (os : List Ob) (cs : List Nd) (q j : Nat) : List Ob:=if (cs.getD q default).kids = [] then mixO ws os cs q else midO ws os cs q j
theorem in_zero {ws : List Int} {os : List Ob} {cs : List Nd} {q : Nat} (h : q < cs.length) (hk : (cs.getD q default).kids ≠ [] -> (cs.getD q default).kind = 7 \/ (cs.getD q default).kind = 8) : inO ws os cs q 0 = mixO ws os cs q:=by
 unfold inO
 by_cases e : (cs.getD q default).kids = []
 ·rw [if_pos e]
 ·rw [if_neg e,mid_zero h (hk e)]
theorem in_all {ws : List Int} {os : List Ob} {cs : List Nd} {q : Nat} (h : q < cs.length) (hk : (cs.getD q default).kids ≠ [] -> (cs.getD q default).kind = 7 \/ (cs.getD q default).kind = 8) : inO ws os cs q (cs.getD q default).kids.length = mixO ws os cs (q + 1):=by
 unfold inO
 by_cases e : (cs.getD q default).kids = []
 ·rw [if_pos e,mix_bare h e]
 ·rw [if_neg e,mid_all h (hk e)]
theorem in_set {N : Int} {os : List Ob} {nm : List ByteArray} {cs : List Nd} (h : PutOk N os nm cs) {q j : Nat} (hq : q < cs.length) (hk : (cs.getD q default).kids ≠ [] -> (cs.getD q default).kind = 7 \/ (cs.getD q default).kind = 8) (hj : j < (cs.getD q default).kids.length) :
  (setM (inO (putS nm (usedL os) cs).ws os cs q j) ((putS nm (usedL os) cs).ws.getD q 0) 0 (j : Nat) ((putS nm (usedL os) cs).ws.getD ((cs.getD q default).kids.getD j 0).toNat 0)).1 = inO (putS nm (usedL os) cs).ws os cs q (j + 1):=by
 have e : (cs.getD q default).kids ≠ []:=fun e=>by rw [e] at hj;simp at hj
 unfold inO
 rw [if_neg e,if_neg e,mid_set h hq (hk e) hj]
theorem set_app {l : List Int} {n : Nat} (P : Int) (h : 0 < n) : (l ++ List.replicate n 0).set l.length P = (l ++ [P]) ++ List.replicate (n - 1) 0:=by
 obtain ⟨m,rfl⟩ : ∃ m,n = m + 1:=⟨n - 1,by omega⟩
 rw [List.set_append_right _ _ (Nat.le_refl _),Nat.sub_self,List.replicate_succ,List.set_cons_zero,List.append_assoc]
 rfl
theorem info_word' : (Tryz.prog.info? 44).map (fun i=>(i.zero,i.size,i.bytes)) = some (some (.int .u64 0),1,8):=by kernel_rfl
theorem made_uz (n : Nat) : madeCells #[.int .u64 0] n = (uz (List.replicate n 0)).toArray:=by
 apply Array.ext'
 simp only [madeCells,uz,List.map_replicate,List.toList_toArray]
 rw [List.eq_replicate_iff]
 refine ⟨by simp,fun x hx=>?_⟩
 simp [Nat.mod_one] at hx
 exact hx.2.symm
section
variable {B : Nat} {v vn : Value} {N : Int} {os : List Ob} {nm : List ByteArray} {F : Nat -> Prop}
def AllPost (B : Nat) (v vn : Value) (N : Int) (F : Nat -> Prop) (w : World) (ws : List Int) (os' : List Ob) (nm' : List ByteArray) (e : Ending) (w' : World) : Prop :=
 ∃ gw,e = .returned (.slice (some ⟨gw,0,none⟩) ws.length ws.length) /\ w.heap.size <= gw /\ w'.heap[gw]? = some (.cells (uz ws).toArray 44 (0,0)) /\ ∃ F',PN B v vn N os' nm' F' w' /\ (∀ b,F' b -> F b \/ w.heap.size <= b) /\ ¬ F' gw /\ Mod F w w'
set_option maxHeartbeats 8000000 in
theorem layall_any (an : Option Addr) (nn cn : Nat) (cs : List Nd) (w : World) (b0 : Nat) (h : PN B v vn N os nm F w) (hok : PutOk N os nm cs) (hL : ∀ d ∈ cs, LNd d) (hF0 : ∀ b, F b -> b < b0) (hb0 : b0 <= w.heap.size) (hlen : cs.length = nn)
  (K : ∀ wx : World,w.heap.size <= wx.heap.size -> (∀ b,b0 <= b -> b < w.heap.size -> wx.heap[b]? = w.heap[b]?) -> NRow wx an nn cn cs) (hn : nn <= 100) (hB : B <= w.heap.size) (hnm : nm.length <= 900000) :
  Calls Tryz.prog 87 #[v,vn,.slice an nn cn] w (AllPost B v vn N F w (putS nm (usedL os) cs).ws (os ++ objsOf (putS nm (usedL os) cs).ws cs) (putS nm (usedL os) cs).nm):=by
 have hR:=K w (Nat.le_refl _) (fun b _ _=>rfl)
 have hf:=hR.fits
 have hm:=hR.most
 unfold maxLen at hm
 have HOK:=hid hok
 have HL:=hid hL
 have HK:=hid K
 have HF0:=hid hF0
 have HOS:=hid h.fine
 have hmk:=fun wx=>run_make_row' (P:=Tryz.prog) 23 44 (.int .u64 0) 8 Tryz.underlying23 info_word' rfl .i64 .i64 nn (by omega) (by omega) wx
 obtain ⟨gh,gp,rfl,rfl⟩:=h.ptrs
 obtain ⟨u,hu⟩ : ∃ u,u = usedL os:=⟨_,rfl⟩
 rw [<- hu]
 have HU:=hid hu
 obtain ⟨W0,hW0⟩ : ∃ W,W = w.alloc (.cells (madeCells #[.int .u64 0] nn) 44):=⟨_,rfl⟩
 have hs0 : W0.heap.size = w.heap.size + 1:=by rw [hW0,size_alloc]
 have HS0:=hid hs0
 have hb1 : Below w.heap.size w W0:=by rw [hW0];exact Ba w _
 have HB1:=hid hb1
 obtain ⟨gw,hgw⟩ : ∃ g,g = w.heap.size:=⟨_,rfl⟩
 have HGW:=hid hgw
 have HQ0 : Hid (LQ B (.pointer (some ⟨gh,0,none⟩)) (.pointer (some ⟨gp,0,none⟩)) N F W0 gw os nm (List.replicate nn 0) W0):=by
  refine ⟨⟨F,h.on hb1,fun b e=>.inl e⟩,Mod.refl _ _,?_,by omega,fun e=>by have:=(h.ge _ e).2;omega⟩
  rw [hgw,hW0,<- made_uz]
  exact blk_new _ _ _
 have HAG : Hid (∀ wx,Mod (fun b=>F b \/ b = gw) W0 wx -> Agree b0 w wx):=fun wx m=>⟨by have:=m.size;omega,fun b e1 e2=>by
  rw [m.block b (by omega) (fun e=>by rcases e with e | e;have:=HF0.out b e;omega;omega)]
  exact HB1.out.block b e2⟩
 have HROW : Hid (∀ wx,Mod (fun b=>F b \/ b = gw) W0 wx -> NRow wx an nn cn cs):=fun wx m=>HK.out wx (HAG.out wx m).1 (HAG.out wx m).2
 have fin : Hid (∀ (wx : World) (ws : List Int) (os' : List Ob) (nm' : List ByteArray),LQ B (.pointer (some ⟨gh,0,none⟩)) (.pointer (some ⟨gp,0,none⟩)) N F W0 gw os' nm' ws wx -> ws.length = nn -> AllPost B (.pointer (some ⟨gh,0,none⟩)) (.pointer (some ⟨gp,0,none⟩)) N F w ws os' nm' (.returned (.slice (some ⟨gw,0,none⟩) nn nn)) wx):=fun wx ws os' nm' hq hl=>by
  obtain ⟨F',p1,p2⟩:=hq.pn
  have e1:=HGW.out
  have e2:=HS0.out
  refine ⟨gw,by rw [hl],by omega,hq.row,F',p1,fun b e=>(p2 b e).imp id (fun e=>by omega),fun e=>?_,(Mod.of_below F HB1.out).trans hq.mod (fun b hb e=>?_)⟩
  ·rcases p2 gw e with e | e
   ·exact hq.off e
   ·omega
  ·rcases e with e | e
   ·exact e
   ·omega
 have HWL : Hid ((putS nm u cs).ws.length = nn):=by
  have:=putS_len (nm:=nm) (a:=u) (cs:=cs) cs.length (Nat.le_refl _)
  rw [List.take_length] at this
  exact this.trans hlen
 have HBB : Hid (B <= W0.heap.size):=by unfold Hid;omega
 clear h hok hL hF0 K hR hu hb1
 go_enter Tryz.func87,Tryz.ntmps87
 go_wp2_with fail
 rw [<- hW0,<- hgw]
 clear hmk hW0 hgw hs0 hB hb0
 go_loopw [8,9,19] (fun _ _ i wr=>∃ q : Nat,q <= nn /\ i = .int .i64 q /\ Hid (LQ B (.pointer (some ⟨gh,0,none⟩)) (.pointer (some ⟨gp,0,none⟩)) N F W0 gw (os ++ nullsOf (cs.take q)) (putS nm u (cs.take q)).nm ((putS nm u (cs.take q)).ws ++ List.replicate (nn - q) 0) wr)) (fun _ _ i _=>nn - (intOf i).toNat)
 case atStart=>exact ⟨0,Nat.zero_le _,rfl,hid (by have:=HQ0.out;simpa [nullsOf,putS] using this)⟩
 case round =>
  obtain ⟨q,hq,rfl,HI⟩:=hrel
  by_cases hlt : q < nn
  ·have hql : q < cs.length := by omega
   obtain ⟨b,o,rfl,hlb,hc⟩:=(HROW.out wr HI.out.mod).some (by omega)
   obtain ⟨k1,k2,k3,ak,nk,ck,k4,k5⟩:=hc q hlt
   have hmm : cs.getD q default∈cs:=by rw [List.getD_eq_getElem?_getD,List.getElem?_eq_getElem hql];exact List.getElem_mem _
   have hd:=HL.out _ hmm
   have hnd:=HOK.out.nd _ hmm
   have hlk:=k5.len
   obtain ⟨P,t1,t2,t3,t4⟩:=lay_turn (N:=N) (nm:=nm) (os:=os) HOK.out hql hd.sz
   rw [<- HU.out] at t1 t4
   have hsl:=putS_len (nm:=nm) (a:=u) (cs:=cs) q (by omega)
   have hsn:=putS_nm (nm:=nm) (a:=u) (cs:=cs) q (by omega)
   have CS : Hid (∀ W,LQ B (.pointer (some ⟨gh,0,none⟩)) (.pointer (some ⟨gp,0,none⟩)) N F W0 gw (os ++ nullsOf (cs.take q)) (putS nm u (cs.take q)).nm ((putS nm u (cs.take q)).ws ++ List.replicate (nn - q) 0) W -> Calls Tryz.prog 143 #[.pointer (some ⟨gh,0,none⟩),.pointer (some ⟨gp,0,none⟩),NdVal (cs.getD q default) ak ck] W fun e w'=>e = .returned (.int .u64 P) /\ LQ B (.pointer (some ⟨gh,0,none⟩)) (.pointer (some ⟨gp,0,none⟩)) N F W0 gw (os ++ nullsOf (cs.take (q + 1))) (plainN (putS nm u (cs.take q)).nm (cs.getD q default)) ((putS nm u (cs.take q)).ws ++ List.replicate (nn - q) 0) w'):=fun W hq=>by
    obtain ⟨F',p1,p2⟩:=hq.pn
    obtain ⟨_,_,n3,_⟩:=node_parts hnd
    refine (lay_any (cs.getD q default) ak ck W p1 hd (fun e=>?_) (fun e=>?_) (by rw [hlk];exact k5.fits) (by have:=k5.most;unfold maxLen at this;omega) (Nat.le_trans HBB.out hq.size) (by omega) P _ (nulls_ok HOS.out _) t3 t4).mono ?_
    ·rw [e,numB_2,Bool.or_eq_true,decide_eq_true_eq,decide_eq_true_eq] at n3;exact n3
    ·rw [e,numB_4] at n3;exact n3
    ·rintro e w' ⟨rfl, p⟩
     exact ⟨rfl,hq.step p2 p⟩
   have HSTEP : Hid ((putS nm u (cs.take (q + 1))).ws ++ List.replicate (nn - (q + 1)) 0 = ((putS nm u (cs.take q)).ws ++ List.replicate (nn - q) 0).set q P):=by
    unfold Hid
    have e1:=set_app (l:=(putS nm u (cs.take q)).ws) (n:=nn - q) P (by omega)
    rw [hsl] at e1
    rw [e1,t1,show nn - q - 1 = nn - (q + 1) by omega]
   have HNM : Hid ((putS nm u (cs.take (q + 1))).nm = plainN (putS nm u (cs.take q)).nm (cs.getD q default)):=by unfold Hid;rw [t1]
   have hrl : Hid (((putS nm u (cs.take q)).ws ++ List.replicate (nn - q) 0).length = nn):=by unfold Hid;rw [List.length_append,hsl,List.length_replicate];omega
   unfold NdVal at CS
   rw [hlk] at CS
   obtain ⟨L,hLL⟩ : ∃ L,L = (putS nm u (cs.take q)).ws ++ List.replicate (nn - q) 0:=⟨_,rfl⟩
   rw [<- hLL] at CS HSTEP hrl HI
   obtain ⟨N1,hN1⟩ : ∃ L,L = (putS nm u (cs.take q)).nm:=⟨_,rfl⟩
   rw [<- hN1] at CS HNM HI
   obtain ⟨d,hdd⟩ : ∃ d,d = cs.getD q default:=⟨_,rfl⟩
   rw [<- hdd] at k1 k2 k3 CS HNM
   have HRL : Hid (∀ (W : World) (o2 : List Ob) (m2 : List ByteArray),LQ B (.pointer (some ⟨gh,0,none⟩)) (.pointer (some ⟨gp,0,none⟩)) N F W0 gw o2 m2 L W -> W.cell? ⟨gw,q,none⟩ = some (.int .u64 (L.getD q 0)) /\ W.frozen? ⟨gw,q,none⟩ = false):=fun W o2 m2 hq=>⟨hq.cell (by rw [hrl.out];exact hlt),blk_free hq.row q⟩
   obtain ⟨y,hy⟩ : ∃ y,y = L.getD q 0:=⟨_,rfl⟩
   rw [<- hy] at HRL
   obtain ⟨nm2,hnm2⟩ : ∃ n,n = plainN N1 d:=⟨_,rfl⟩
   rw [<- hnm2] at CS HNM
   obtain ⟨dk,dn,dt,dl⟩:=d
   simp only at k1 k2 k3 CS
   have hx:=blk_new wr #[.int .i64 dk,.int .i64 dn,.string dt,.slice ak nk ck] 54
   have b0 : (wr.alloc (.cells #[.int .i64 dk,.int .i64 dn,.string dt,.slice ak nk ck] 54)).cell? ⟨wr.heap.size,0,none⟩ = some (.int .i64 dk):=blk_cell hx 0
   have b1 : (wr.alloc (.cells #[.int .i64 dk,.int .i64 dn,.string dt,.slice ak nk ck] 54)).cell? ⟨wr.heap.size,1,none⟩ = some (.int .i64 dn):=blk_cell hx 1
   have b2 : (wr.alloc (.cells #[.int .i64 dk,.int .i64 dn,.string dt,.slice ak nk ck] 54)).cell? ⟨wr.heap.size,2,none⟩ = some (.string dt):=blk_cell hx 2
   have b3 : (wr.alloc (.cells #[.int .i64 dk,.int .i64 dn,.string dt,.slice ak nk ck] 54)).cell? ⟨wr.heap.size,3,none⟩ = some (.slice ak nk ck):=blk_cell hx 3
   have C2:=hid (CS.out _ (HI.out.on (Ba wr (.cells #[.int .i64 dk,.int .i64 dn,.string dt,.slice ak nk ck] 54))))
   clear hc hmm hd hnd hdd k5 hlk hx t1 t2 t3 t4 hsl hsn hLL hN1 hy hnm2
   go_wp2_with (go_at_call 143;(with_reducible refine C2.out.mono ?_);rintro e W4 ⟨rfl,q4⟩;have HQ4:=hid q4;obtain ⟨r1,r2⟩:=HRL.out W4 _ _ q4;clear q4)
   refine ⟨⟨q + 1,by omega,by go_num,?_⟩,by simp [intOf] <;> omega⟩
   rw [HSTEP.out,HNM.out]
   exact HQ4.out.put q P
  ·obtain rfl : nn = q := by omega
   have hI2:=HI.out
   rw [Nat.sub_self,List.replicate_zero,List.append_nil,List.take_of_length_le (by omega)] at hI2
   have e0 : os ++ nullsOf cs = mixO (putS nm u cs).ws os cs 0:=(mix_zero _ _ _).symm
   rw [e0] at hI2
   have HI2:=hid hI2
   clear HI hI2 e0
   have HWU : Hid (∀ z∈(putS nm u cs).ws,U64 z):=by
    have:=putS_u (nm:=nm) (a:=u) (cs:=cs) cs.length (Nat.le_refl _)
    rw [List.take_length] at this
    exact this
   have HIS : Hid (∀ q j,q < cs.length -> j < (cs.getD q default).kids.length -> (setM (inO (putS nm u cs).ws os cs q j) ((putS nm u cs).ws.getD q 0) 0 (j : Nat) ((putS nm u cs).ws.getD ((cs.getD q default).kids.getD j 0).toNat 0)).1 = inO (putS nm u cs).ws os cs q (j + 1)):=fun q' j hq' hj=>by
    have hmm : cs.getD q' default∈cs:=by rw [List.getD_eq_getElem?_getD,List.getElem?_eq_getElem hq'];exact List.getElem_mem _
    have:=in_set HOK.out hq' (kids_kind (HOK.out.nd _ hmm) (HL.out _ hmm)) hj
    rw [<- HU.out] at this
    exact this
   have HIZ : Hid (∀ q,q < cs.length -> inO (putS nm u cs).ws os cs q 0 = mixO (putS nm u cs).ws os cs q /\ inO (putS nm u cs).ws os cs q (cs.getD q default).kids.length = mixO (putS nm u cs).ws os cs (q + 1)):=fun q' hq'=>by
    have hmm : cs.getD q' default∈cs:=by rw [List.getD_eq_getElem?_getD,List.getElem?_eq_getElem hq'];exact List.getElem_mem _
    exact ⟨in_zero hq' (kids_kind (HOK.out.nd _ hmm) (HL.out _ hmm)),in_all hq' (kids_kind (HOK.out.nd _ hmm) (HL.out _ hmm))⟩
   have HMA : Hid (mixO (putS nm u cs).ws os cs cs.length = os ++ objsOf (putS nm u cs).ws cs):=mix_all _ _ _
   obtain ⟨ws,hws⟩ : ∃ ws,ws = (putS nm u cs).ws:=⟨_,rfl⟩
   obtain ⟨nm2,hnm2⟩ : ∃ ws,ws = (putS nm u cs).nm:=⟨_,rfl⟩
   rw [<- hws] at HI2 HWU HIS HIZ HWL HMA
   rw [<- hnm2] at HI2
   have HWS:=hid hws
   have HNS:=hid hnm2
   clear hws hnm2
   go_wp2_with fail
   go_loopw [10,11,12,13,34] (fun _ _ _ _ i wr=>∃ q : Nat,q <= nn /\ i = .int .i64 q /\ Hid (LQ B (.pointer (some ⟨gh,0,none⟩)) (.pointer (some ⟨gp,0,none⟩)) N F W0 gw (mixO ws os cs q) nm2 ws wr)) (fun _ _ _ _ i _=>nn - (intOf i).toNat)
   case atStart=>exact ⟨0,Nat.zero_le _,rfl,HI2.out⟩
   case round =>
    obtain ⟨q,hq,rfl,HI⟩:=hrel
    by_cases hlt : q < nn
    ·have hql : q < cs.length := by omega
     obtain ⟨b,o,ak,nk,ck,ean,hfx⟩:=rows_fixed (fun wx hx=>HK.out wx hx.1 hx.2) hlt
     have HFX:=hid hfx
     obtain ⟨k1,k2,k3,k4,k5⟩:=hfx wr (HAG.out wr HI.out.mod)
     have hmm : cs.getD q default∈cs:=by rw [List.getD_eq_getElem?_getD,List.getElem?_eq_getElem hql];exact List.getElem_mem _
     have hlk:=k5.len
     have hkf:=k5.fits
     have hkm:=k5.most
     unfold maxLen at hkm
     have hk100:=(HL.out _ hmm).c.kids
     have HKR : Hid (∀ j,j < (cs.getD q default).kids.length -> ∃ m : Nat,(cs.getD q default).kids.getD j 0 = (m : Int) /\ m < nn):=fun j hj=>by
      have h1:=places_rng (node_parts (HOK.out.nd _ hmm)).2.2.2.2.2 _ (getD_in_f hj)
      exact ⟨((cs.getD q default).kids.getD j 0).toNat,by omega,by omega⟩
     have HIS1:=hid (fun j=>HIS.out q j hql)
     obtain ⟨z1,z2⟩:=HIZ.out q hql
     rw [hlk] at z2
     have HZ1:=hid z1
     have HZ2:=hid z2
     have HIR : Hid (∀ wx,LQ B (.pointer (some ⟨gh,0,none⟩)) (.pointer (some ⟨gp,0,none⟩)) N F W0 gw (mixO ws os cs q) nm2 ws wx \/ (∃ j,LQ B (.pointer (some ⟨gh,0,none⟩)) (.pointer (some ⟨gp,0,none⟩)) N F W0 gw (inO ws os cs q j) nm2 ws wx) -> IRow wx ak nk ck (cs.getD q default).kids):=fun wx hx=>by
      rcases hx with hx | ⟨j,hx⟩
      ·exact (HFX.out wx (HAG.out wx hx.mod)).2.2.2.2
      ·exact (HFX.out wx (HAG.out wx hx.mod)).2.2.2.2
     have CS : Hid (∀ (j : Nat) (W : World),j < nk -> LQ B (.pointer (some ⟨gh,0,none⟩)) (.pointer (some ⟨gp,0,none⟩)) N F W0 gw (inO ws os cs q j) nm2 ws W -> Calls Tryz.prog 36 #[.pointer (some ⟨gh,0,none⟩),.int .u64 (ws.getD q 0),.int .i64 0,.int .i64 (j : Nat),.int .u64 (ws.getD ((cs.getD q default).kids.getD j 0).toNat 0)] W fun e w'=>∃ r,e = .returned (.int .i64 r) /\ LQ B (.pointer (some ⟨gh,0,none⟩)) (.pointer (some ⟨gp,0,none⟩)) N F W0 gw (inO ws os cs q (j + 1)) nm2 ws w'):=fun j W hj hq=>by
      obtain ⟨F',p1,p2⟩:=hq.pn
      have hwl:=HWL.out
      obtain ⟨m,em,hm⟩:=HKR.out j (by rw [hlk];exact hj)
      have hset:=HIS1.out j (by rw [hlk];exact hj)
      refine (pn_set p1 (ws.getD q 0) 0 (j : Nat) (ws.getD ((cs.getD q default).kids.getD j 0).toNat 0) (HWU.out _ (getD_in_f (by omega))) (by unfold Z64;omega) (by unfold Z64;omega) (HWU.out _ (getD_in_f (by rw [em];omega))) (Nat.le_trans HBB.out hq.size)).mono ?_
      rintro e w' ⟨rfl,p⟩
      rw [hset] at p
      exact ⟨_,rfl,hq.step p2 p⟩
     obtain ⟨d,hdd⟩ : ∃ d,d = cs.getD q default:=⟨_,rfl⟩
     rw [<- hdd] at k1 k2 k3 HKR HIR CS hlk
     obtain ⟨dk,dn,dt,dl⟩:=d
     simp only at k1 k2 k3 HKR HIR CS hlk
     have hx:=blk_new wr #[.int .i64 dk,.int .i64 dn,.string dt,.slice ak nk ck] 54
     have b3 : (wr.alloc (.cells #[.int .i64 dk,.int .i64 dn,.string dt,.slice ak nk ck] 54)).cell? ⟨wr.heap.size,3,none⟩ = some (.slice ak nk ck):=blk_cell hx 3
     have HI4 : Hid (LQ B (.pointer (some ⟨gh,0,none⟩)) (.pointer (some ⟨gp,0,none⟩)) N F W0 gw (inO ws os cs q 0) nm2 ws (wr.alloc (.cells #[.int .i64 dk,.int .i64 dn,.string dt,.slice ak nk ck] 54))):=by
      unfold Hid
      rw [HZ1.out]
      exact HI.out.on (Ba wr _)
     subst ean
     clear hfx hmm k5 hk100 z1 z2 hdd hx HI
     go_wp2_with fail
     obtain ⟨WB,hWB⟩ : ∃ W,W = wr.alloc (.cells #[.int .i64 dk,.int .i64 dn,.string dt,.slice ak nk ck] 54):=⟨_,rfl⟩
     rw [<- hWB] at HI4 ⊢
     clear b3 k1 k2 k3 k4 hWB
     go_loopw [12,13,42] (fun _ _ i wr=>∃ j : Nat,j <= nk /\ i = .int .i64 j /\ Hid (LQ B (.pointer (some ⟨gh,0,none⟩)) (.pointer (some ⟨gp,0,none⟩)) N F W0 gw (inO ws os cs q j) nm2 ws wr)) (fun _ _ i _=>nk - (intOf i).toNat)
     case atStart=>exact ⟨0,Nat.zero_le _,rfl,HI4.out⟩
     case round =>
      obtain ⟨j,hj,rfl,HJ⟩:=hrel
      by_cases hlj : j < nk
      ·obtain ⟨b5, o5, rfl, hl5, hc5⟩ := (HIR.out wr (.inr ⟨j, HJ.out⟩)).some (by omega)
       have c5:=hc5 j hlj
       obtain ⟨m,em,hm⟩:=HKR.out j (by omega)
       have C2:=hid (CS.out j wr.drew hlj (HJ.out.on (below_drew wr)))
       rw [em] at c5
       rw [em,Int.toNat_natCast] at C2
       have hwl:=HWL.out
       have x1:=HJ.out.cell (k:=q) (by omega)
       have x2:=HJ.out.cell (k:=m) (by omega)
       obtain ⟨y1,hy1⟩ : ∃ y,y = ws.getD q 0:=⟨_,rfl⟩
       obtain ⟨y2,hy2⟩ : ∃ y,y = ws.getD m 0:=⟨_,rfl⟩
       rw [<- hy1] at x1 C2
       rw [<- hy2] at x2 C2
       clear hc5 em hy1 hy2 hwl
       go_wp2_with fail
       go_region_with (go_at_call 36;(with_reducible refine C2.out.mono ?_);rintro e W1 ⟨r,rfl,q1⟩;have HQ1:=hid q1;clear q1)
       all_goals
        go_wp2_with fail
        exact ⟨⟨j + 1,by omega,by go_num,HQ1.out⟩,by simp [intOf] <;> omega⟩
      ·obtain rfl : nk = j := by omega
       have hJ2:=HJ.out
       rw [HZ2.out] at hJ2
       have HJ2:=hid hJ2
       clear hJ2
       go_wp2_with fail
       exact ⟨⟨q + 1,by omega,by go_num,HJ2.out⟩,by simp [intOf] <;> omega⟩
    ·obtain rfl : nn = q := by omega
     have hI3:=HI.out
     rw [<- hlen,HMA.out] at hI3
     have HI3:=hid hI3
     clear HI hI3
     go_wp2_with fail
     go_ret
     rw [<- HWS.out,<- HNS.out]
     exact fin.out _ _ _ _ HI3.out HWL.out
end
end Go.Proofs.YticimejfjjmikaaGreatDoor
