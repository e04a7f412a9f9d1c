import Derived.Test.YticimejfjjmikaaGreatDoorSL3
import Derived.Test.YticimejfjjmikaaGreatDoorU30
import Derived.Test.YticimejfjjmikaaGreatDoorC3
import Derived.Test.YticimejfjjmikaaGreatDoorShelfS
import Derived.Maps.OwnSet
import Derived.WalkSpells
import Derived.Lib.SmallJoins
import Derived.Test.YticimejfjjmikaaGreatDoorU34
set_option linter.unusedVariables false
set_option linter.unusedSimpArgs false
set_option maxRecDepth 100000
namespace Go.Proofs.YticimejfjjmikaaGreatDoor
open Go.RowKit
theorem slaw : Maps.Keyed Tryz.prog 9:=Maps.string_keyed Tryz.underlying9
theorem skey {s : ByteArray} (hs : s.size <= 9223372036854775807) : keyOf Tryz.prog 9 (.string s) = some (.string s.data.toList):=WideMaps.keyOf_string_mk Tryz.underlying9 hs
theorem zhe1 (w : World) : (zeroValue 3).run Tryz.prog w = .ok (.int .i64 0) w:=by kernel_rfl
theorem zxk : ∀ (nm : List ByteArray) (s y : ByteArray),idM (nm ++ [s]) y = if idM nm y < nm.length then idM nm y else if s = y then nm.length else nm.length + 1
 | [],s,y=>by simp [idM]
 | x :: l, s, y => by
  have ih:=zxk l s y
  rw [List.cons_append]
  unfold idM
  by_cases e : x = y
  ·rw [if_pos e,if_pos e,if_pos (by simp)]
  ·rw [if_neg e, if_neg e, ih]
   have hl : (x :: l).length = l.length + 1:=rfl
   rw [hl]
   by_cases h : idM l y < l.length
   ·rw [if_pos h,if_pos (show idM l y + 1 < l.length + 1 by omega)]
   ·rw [if_neg h, if_neg (show ¬ idM l y + 1 < l.length + 1 by omega)]
    by_cases h2 : s = y
    ·rw [if_pos h2,if_pos h2]
    ·rw [if_neg h2,if_neg h2]
def MapS (w : World) (Bm : Nat) (nm : List ByteArray) : Prop :=
 ∃ D,w.ownsMap (H:=Unit) Tryz.prog 9 (plainElem Tryz.prog 3) Bm nm.length D /\ ∀ s : ByteArray,s.size <= 9223372036854775807 -> Maps.has D (.string s.data.toList) = decide (idM nm s < nm.length) /\ (idM nm s < nm.length -> D.atKey (.string s.data.toList) (.lit (.int .i64 0)) = .lit (.int .i64 ((idM nm s : Nat) : Int)))
section
variable {w w' : World} {Bm : Nat} {nm : List ByteArray} {s : ByteArray}
theorem MapS.lt (h : MapS w Bm nm) : Bm < w.heap.size:=by obtain ⟨D,h1,_⟩:=h;exact h1.lt
theorem MapS.frame (h : MapS w Bm nm) (hb : w'.heap[Bm]? = w.heap[Bm]?) : MapS w' Bm nm:=by
 obtain ⟨D,⟨es,clock,h1,h2,h3,h4⟩,h5⟩:=h
 exact ⟨D,⟨es,clock,hb.trans h1,h2,h3,h4⟩,h5⟩
theorem MapS.made (w : World) : MapS (w.alloc (.map #[] 0)) w.heap.size [] :=
 ⟨.map [],World.ownsMap_made w _ _ _,fun s hs=>⟨by simp [Maps.has],fun h=>by simp at h⟩⟩
theorem MapS.look_ok (h : MapS w Bm nm) (hs : s.size <= 9223372036854775807) : ∃ c : Int,(Instr.lookup 126 (.map (some Bm)) (.string s) true).run Tryz.prog w = .ok (.tuple #[.int .i64 c,.bool (decide (idM nm s < nm.length))]) w /\ (idM nm s < nm.length -> c = (idM nm s : Nat)):=by
 obtain ⟨D,h1,h3⟩:=h
 obtain ⟨v,ps,hrun,hv⟩:=h1.look_ok slaw Tryz.underlying126 (zhe1 w) (plainElem_int Tryz.underlying3 (a:=0) (by decide)) (skey hs)
 obtain ⟨c,rfl,hc,_⟩:=plainElem_int_inv Tryz.underlying3 hv
 refine ⟨c,by rw [hrun,(h3 s hs).1],fun hl=>?_⟩
 have:=(h3 s hs).2 hl
 have hc1:=congrArg Prod.fst hc
 simp only at hc1
 rw [this] at hc1
 injection hc1 with hc1
 injection hc1 with _ hc1
 exact hc1.symm
theorem MapS.store (h : MapS w Bm nm) (hs : s.size <= 9223372036854775807) (hm : ¬ idM nm s < nm.length) (hl : nm.length <= 1000000000) : ∃ w',(Instr.mapUpdate 126 (.map (some Bm)) (.string s) (.int .i64 (nm.length : Nat))).run Tryz.prog w = .ok () w' /\ MapS w' Bm (nm ++ [s]) /\ w.grownBy w' (some Bm):=by
 obtain ⟨D,h1,h3⟩:=h
 obtain ⟨w',hrun,ho,ht⟩:=h1.store slaw Tryz.underlying126 (by unfold maxLen;omega) (skey hs) (plainElem_int Tryz.underlying3 (a:=(nm.length : Nat)) (WalkArith.wf_i64 (by omega)))
 refine ⟨w',hrun,⟨_,by rw [List.length_append];exact ho,fun y hy=>?_⟩,ht.grown⟩
 rw [zxk,List.length_append,List.length_singleton]
 by_cases e : s = y
 ·subst e
  rw [if_neg hm,if_pos rfl]
  refine ⟨?_,fun _=>?_⟩
  ·rw [Maps.has_put_same h1.isMap (slaw.key (skey hs))];simp
  ·rw [Maps.atKey_put_same h1.isMap (slaw.key (skey hs))]
 ·have hne : (Lit.string y.data.toList) ≠ .string s.data.toList := fun e' => e (by
   injection e' with e'
   have : y.data = s.data:=by rw [<- Array.toList_inj];exact e'
   exact (ByteArray.ext this).symm)
  obtain ⟨g1,g2⟩:=h3 y hy
  rw [if_neg e]
  refine ⟨?_,fun hmem=>?_⟩
  ·rw [Maps.has_put_other hne, g1]
   by_cases h : idM nm y < nm.length
   ·rw [if_pos h,decide_eq_true h,decide_eq_true (by omega)]
   ·rw [if_neg h,decide_eq_false h,decide_eq_false (by omega)]
  ·by_cases h : idM nm y < nm.length
   ·rw [if_pos h,Maps.atKey_put_other hne,g2 h]
   ·rw [if_neg h] at hmem;omega
end
structure NPo (B gp gm : Nat) (vT : Value) (nm mq : List ByteArray) (w : World) : Prop where
 box : w.heap[gp]? = some (.cells #[.map (some gm),vT] 128 (0,0))
 map : MapS w gm mq
 own : w.ownsRow B 9 1 vT nm.length (sz nm)
 ne : gp ≠ gm
 np : vT.ownBlock ≠ some gp
 nq : vT.ownBlock ≠ some gm
 bp : B <= gp
 bm : B <= gm
def NPf (gp gm : Nat) (vT : Value) : Nat -> Prop:=fun b=>b = gp \/ b = gm \/ vT.ownBlock = some b
def NP (B : Nat) (vn : Value) (nm : List ByteArray) (F : Nat -> Prop) (w : World) : Prop:=∃ gp gm vT,vn = .pointer (some ⟨gp,0,none⟩) /\ NPo B gp gm vT nm nm w /\ ∀ b,F b ↔ NPf gp gm vT b
theorem NPo.ge {B gp gm : Nat} {vT : Value} {nm mq : List ByteArray} {w : World} (h : NPo B gp gm vT nm mq w) : ∀ b,NPf gp gm vT b -> B <= b /\ b < w.heap.size:=by
 rintro b (rfl | rfl | e)
 ·exact ⟨h.bp,(Array.getElem?_eq_some_iff.1 h.box).1⟩
 ·exact ⟨h.bm,h.map.lt⟩
 ·exact h.own.lt b e
theorem NPo.keep {B gp gm : Nat} {vT : Value} {nm mq : List ByteArray} {w w' : World} (h : NPo B gp gm vT nm mq w) (hb : ∀ b,NPf gp gm vT b -> w'.heap[b]? = w.heap[b]?) : NPo B gp gm vT nm mq w' :=
 ⟨(hb gp (.inl rfl)).trans h.box,h.map.frame (hb gm (.inr (.inl rfl))),yq h.own (fun b e=>hb b (.inr (.inr e))),h.ne,h.np,h.nq,h.bp,h.bm⟩
theorem NPo.on {B gp gm : Nat} {vT : Value} {nm mq : List ByteArray} {w w' : World} (h : NPo B gp gm vT nm mq w) (hb : Below w.heap.size w w') : NPo B gp gm vT nm mq w':=h.keep (fun b e=>hb.block b (h.ge b e).2)
theorem NPo.turn {B gp gm : Nat} {vT : Value} {nm mq mq' : List ByteArray} {w w' : World} (h : NPo B gp gm vT nm mq w) (hg : w.grownBy w' (some gm)) (hm : MapS w' gm mq') : NPo B gp gm vT nm mq' w':=by
 have hk : ∀ b,b < w.heap.size -> b ≠ gm -> w'.heap[b]? = w.heap[b]?:=fun b hb hne=>hg.block b hb (fun e=>hne (Option.some.inj e))
 exact ⟨(hk gp (h.ge gp (.inl rfl)).2 h.ne).trans h.box,hm,yq h.own (fun b e=>hk b (h.ge b (.inr (.inr e))).2 (fun e'=>h.nq (by rw [e,e']))),h.ne,h.np,h.nq,h.bp,h.bm⟩
theorem NPo.push {B gp gm : Nat} {vT : Value} {nm nm' mq : List ByteArray} {w w' : World} {g cap n : Nat} (h : NPo B gp gm vT nm mq w) (hn : nm'.length = n) (ho : w'.ownsRow B 9 1 (.slice (some ⟨g,0,none⟩) n cap) n (sz nm')) (hg : w.grownBy w' vT.ownBlock) (hl : vT.ownBlock = some g \/ g = w.heap.size) :
  NPo B gp gm (.slice (some ⟨g,0,none⟩) n cap) nm' mq (w'.setCell ⟨gp,1,none⟩ (.slice (some ⟨g,0,none⟩) n cap)) /\ w'.cell? ⟨gp,1,none⟩ = some vT /\ w'.frozen? ⟨gp,1,none⟩ = false:=by
 subst hn
 have hk : ∀ b,b < w.heap.size -> vT.ownBlock ≠ some b -> w'.heap[b]? = w.heap[b]?:=fun b hb hne=>hg.block b hb (fun e=>hne e.symm)
 have hp:=h.ge gp (.inl rfl)
 have hm:=h.ge gm (.inr (.inl rfl))
 have hbx:=(hk gp hp.2 h.np).trans h.box
 have hgp : g ≠ gp:=by
  rcases hl with e | e
  ·exact fun e'=>h.np (by rw [e,e'])
  ·omega
 have hgm : g ≠ gm:=by
  rcases hl with e | e
  ·exact fun e'=>h.nq (by rw [e,e'])
  ·omega
 have hset : ∀ b,b ≠ gp -> (w'.setCell ⟨gp,1,none⟩ (.slice (some ⟨g,0,none⟩) nm'.length cap)).heap[b]? = w'.heap[b]?:=fun b hne=>Below.heap_setCell _ _ _ _ hne
 refine ⟨⟨?_,h.map.frame ((hset gm (fun e=>h.ne e.symm)).trans (hk gm hm.2 h.nq)),yq ho (fun b e=>hset b (fun e'=>hgp ((Option.some.inj e).trans e'))),h.ne,fun e=>hgp (Option.some.inj e),fun e=>hgm (Option.some.inj e),h.bp,h.bm⟩,za hbx 1,zf hbx 1⟩
 rw [zy (i:=1) hbx];rfl
theorem NP.ge {B : Nat} {vn : Value} {nm : List ByteArray} {F : Nat -> Prop} {w : World} (h : NP B vn nm F w) : ∀ b,F b -> B <= b /\ b < w.heap.size:=by
 obtain ⟨gp,gm,vT,_,h1,h2⟩:=h
 exact fun b e=>h1.ge b ((h2 b).1 e)
theorem NP.keep {B : Nat} {vn : Value} {nm : List ByteArray} {F : Nat -> Prop} {w w' : World} (h : NP B vn nm F w) (hb : ∀ b,F b -> w'.heap[b]? = w.heap[b]?) : NP B vn nm F w':=by
 obtain ⟨gp,gm,vT,h0,h1,h2⟩:=h
 exact ⟨gp,gm,vT,h0,h1.keep (fun b e=>hb b ((h2 b).2 e)),h2⟩
theorem NP.ptr {B : Nat} {vn : Value} {nm : List ByteArray} {F : Nat -> Prop} {w : World} (h : NP B vn nm F w) : ∃ gn,vn = .pointer (some ⟨gn,0,none⟩):=by
 obtain ⟨gp,gm,vT,h0,_⟩:=h
 exact ⟨gp,h0⟩
theorem NP.weak {B B' : Nat} {vn : Value} {nm : List ByteArray} {F : Nat -> Prop} {w : World} (h : NP B vn nm F w) (hb : B' <= B) : NP B' vn nm F w:=by
 obtain ⟨gp,gm,vT,h0,h1,h2⟩:=h
 refine ⟨gp,gm,vT,h0,⟨h1.box,h1.map,⟨h1.own.1,?_⟩,h1.ne,h1.np,h1.nq,Nat.le_trans hb h1.bp,Nat.le_trans hb h1.bm⟩,h2⟩
 rcases h1.own.2 with e | ⟨g,cap,cur,e1,e2,e3⟩
 ·exact .inl e
 ·exact .inr ⟨g,cap,cur,e1,Nat.le_trans hb e2,e3⟩
def zxl (B : Nat) (vn : Value) (F : Nat -> Prop) (w : World) (nm' : List ByteArray) (w' : World) : Prop:=∃ F',NP B vn nm' F' w' /\ (∀ b,F' b -> F b \/ w.heap.size <= b) /\ Mod F w w'
theorem zsr (w : World) : Calls Tryz.prog 31 #[] w fun e w'=>∃ vn F,e = .returned vn /\ NP w.heap.size vn [] F w' /\ Below w.heap.size w w':=by
 have hm:=MapS.made w
 have b1:=Ba w (.map #[] 0)
 have b2:=Ba (w.alloc (.map #[] 0)) (.cells #[.map (some w.heap.size),.slice none 0 0] 128)
 have hx:=zd (w.alloc (.map #[] 0)) #[.map (some w.heap.size),.slice none 0 0] 128
 rw [zb] at hx
 have HM:=hid (hm.frame (b2.block w.heap.size (by rw [zb];omega)))
 have HB:=hid (Bt b1 b2)
 have HX:=hid hx
 clear hm b1 b2 hx
 have hmm:=@run_makeMap Tryz.prog
 go_enter Tryz.func31,Tryz.ntmps31
 go_wp2
 go_ret
 refine ⟨_,NPf (w.heap.size + 1) w.heap.size (.slice none 0 0),rfl,⟨w.heap.size + 1,w.heap.size,.slice none 0 0,rfl,⟨HX.out,HM.out,World.ownsRow_nil _ _ _ _,by omega,by simp [Value.ownBlock],by simp [Value.ownBlock],by omega,by omega⟩,fun b=>Iff.rfl⟩,HB.out⟩
theorem zxm (s : ByteArray) (w : World) (hs : s.size <= 1000000000) : Calls Tryz.prog 64 #[.string s] w fun e w'=>e = .returned (.string s) /\ Below w.heap.size w w':=by
 have C:=hid (Any.stringslite_Clone (P:=Tryz.prog) Tryz.laysM316 s w (by omega))
 go_enter Tryz.func64,Tryz.ntmps64
 go_wp2_with (go_at_call 114;(refine C.out.mono ?_);rintro e W1 ⟨rfl,b1⟩)
 go_ret
 exact ⟨rfl,b1⟩
section
variable {B : Nat} {vn : Value} {nm : List ByteArray} {F : Nat -> Prop}
set_option maxHeartbeats 4000000 in
theorem zex1 (s : ByteArray) (w : World) (h : NP B vn nm F w) (hB : B <= w.heap.size) (hl : nm.length <= 1000000) (hs : s.size <= 1000000) : Calls Tryz.prog 32 #[vn,.string s] w fun e w'=>e = .returned (.int .i64 (idM nm s : Nat)) /\ zxl B vn F w (idL nm s) w':=by
 obtain ⟨gp,gm,vT,rfl,hp,hF⟩:=h
 have HP:=hid hp
 have HFF:=hid hF
 have c0 : w.cell? ⟨gp,0,none⟩ = some (.map (some gm)):=za hp.box 0
 obtain ⟨c,hrun,hc⟩:=hp.map.look_ok (s:=s) (by omega)
 by_cases hm : idM nm s < nm.length
 ·obtain rfl := hc hm
  rw [decide_eq_true hm] at hrun
  have HI : Hid (idL nm s = nm):=by unfold Hid idL;rw [if_pos hm]
  have fin : Hid (zxl B (.pointer (some ⟨gp,0,none⟩)) F w (idL nm s) w):=by
   unfold Hid
   rw [HI.out]
   exact ⟨F,⟨gp,gm,vT,rfl,HP.out,HFF.out⟩,fun b e=>.inl e,Mod.refl _ _⟩
  obtain ⟨k,hk⟩ : ∃ k,k = idM nm s:=⟨_,rfl⟩
  rw [<- hk] at hrun ⊢
  clear hp hF hc hm HI hk hB hl
  have hqm : ∀ (wx : World) (r : Option Nat),(binOp .eql 126 (.map r) (.map none)).run Tryz.prog wx = .ok (.bool r.isNone) wx:=fun wx r=>run_eql_map_nil wx _ _ _ r Tryz.underlying126
  go_enter Tryz.func32,Tryz.ntmps32
  go_wp2
  go_ret
  exact ⟨rfl,fin.out⟩
 ·rw [decide_eq_false hm] at hrun
  have HI : Hid (idL nm s = nm ++ [s] /\ idM nm s = nm.length):=by
   refine ⟨by unfold idL;rw [if_neg hm],?_⟩
   have:=zqf nm s
   omega
  obtain ⟨aT,cT,hvT,hTf,hTm⟩:=jd hp.own
  subst hvT
  have c1 : w.cell? ⟨gp,1,none⟩ = some (.slice aT nm.length cT):=za hp.box 1
  have HM:=hid hm
  have HC : Hid (∀ W,Below w.heap.size w W -> Calls Tryz.prog 64 #[.string s] W fun e w'=>e = .returned (.string s) /\ Below W.heap.size W w'):=fun W _=>zxm s W (by omega)
  have HS:=hid hs
  have HBB:=hid hB
  rw [HI.out.1,HI.out.2]
  obtain ⟨n,hn⟩ : ∃ n,n = nm.length:=⟨_,rfl⟩
  have HN:=hid hn
  rw [<- hn] at c1 hTf hl HP HFF ⊢
  clear hp hF hc hm hs hB hn HI
  have hqm : ∀ (wx : World) (r : Option Nat),(binOp .eql 126 (.map r) (.map none)).run Tryz.prog wx = .ok (.bool r.isNone) wx:=fun wx r=>run_eql_map_nil wx _ _ _ r Tryz.underlying126
  go_enter Tryz.func32,Tryz.ntmps32
  go_wp2_with (first
   | (go_at_call 64;(refine (HC.out w (Below.refl _ _)).mono ?_);rintro e W1 ⟨rfl,b1⟩;have HB1:=hid b1;have HP1:=hid (HP.out.on b1);have d0 : W1.cell? ⟨gp,0,none⟩ = some (.map (some gm)):=za HP1.out.box 0;obtain ⟨W2,hst,hm2,hg2⟩:=HP1.out.map.store (s:=s) (by have:=HS.out;omega) HM.out (by rw [<- HN.out];omega);rw [<- HN.out] at hst;have HP2:=hid (HP1.out.turn hg2 hm2);have HG2:=hid hg2;have d1 : W2.cell? ⟨gp,1,none⟩ = some (.slice aT n cT):=za HP2.out.box 1;have HP3:=hid (HP2.out.on (Ba W2 (.cells #[.string s] 9)));have ho3:=HP3.out.own;rw [<- HN.out] at ho3;have HO3:=hid ho3;have HC3 : Hid ((W2.alloc (.cells #[.string s] 9)).cell? ⟨W2.heap.size,0,none⟩ = some (.string s)):=za (zd W2 #[.string s] 9) 0;have HZ3 : Hid (B <= (W2.alloc (.cells #[.string s] 9)).heap.size):=Nat.le_trans HBB.out (Nat.le_trans b1.size (Nat.le_trans hg2.size (Ba W2 _).size));clear b1 hm2 hg2 ho3)
   | (at_builtin;refine appS rfl _ _ 71 rfl B 9 Tryz.underlying71 zqd _ n nm rfl HO3.out W2.heap.size 1 s rfl HC3.out (by omega) HZ3.out ?_;intro g1 cap1 w4 ho4 hg4 hl4 hlt4;obtain ⟨h5,e1,f1⟩:=HP3.out.push (n:=n + 1) (nm':=nm ++ [s]) (by rw [List.length_append,<- HN.out];rfl) ho4 hg4 hl4;have HP5:=hid h5;have HG4:=hid hg4;have HL4:=hid hl4;clear ho4 hg4 hl4 h5))
  go_ret
  have k1:=HB1.out.size
  have k2:=HG2.out.size
  have hfin : zxl B (.pointer (some ⟨gp,0,none⟩)) F w (nm ++ [s]) (w4.setCell ⟨gp,1,none⟩ (.slice (some ⟨g1,0,none⟩) (n + 1) cap1)):=by
   refine ⟨NPf gp gm (.slice (some ⟨g1,0,none⟩) (n + 1) cap1),⟨gp,gm,_,rfl,HP5.out,fun b=>Iff.rfl⟩,fun b hb=>?_,?_⟩
   ·rcases hb with e | e | e
    ·exact .inl ((HFF.out b).2 (.inl e))
    ·exact .inl ((HFF.out b).2 (.inr (.inl e)))
    ·have e' : g1 = b := Option.some.inj e
     rcases HL4.out with e2 | e2
     ·exact .inl ((HFF.out b).2 (.inr (.inr (by rw [<- e'];exact e2))))
     ·rw [zb] at e2;exact .inr (by omega)
   ·have m1 := Mod.of_below F HB1.out
    have m2:=m1.grown HG2.out (fun k e=>.inl ((HFF.out k).2 (by have e' : gm = k:=Option.some.inj e;rw [<- e'];exact .inr (.inl rfl))))
    have m3 : Mod F w (W2.alloc (.cells #[.string s] 9)):=m2.trans (Mod.of_below F (Ba W2 (.cells #[.string s] 9))) (fun _ _ e=>e)
    have m4:=m3.grown HG4.out (fun k e=>.inl ((HFF.out k).2 (.inr (.inr e))))
    exact m4.setCell (p:=⟨gp,1,none⟩) (.inl ((HFF.out gp).2 (.inl rfl))) _
  exact ⟨rfl,hfin⟩
end
theorem PH.weak {B B' : Nat} {v : Value} {N : Int} {ws : List Int} {F : Nat -> Prop} {w : World} (h : PH B v N ws F w) (hb : B' <= B) : PH B' v N ws F w:=by
 obtain ⟨gh,gw,n,rest,e,h1,h2,h3,h4,h5,h6,h7,h8⟩:=h.ok
 exact ⟨⟨gh,gw,n,rest,e,h1,h2,h3,h4,h5,Nat.le_trans hb h6,Nat.le_trans hb h7,h8⟩,h.bd,h.u⟩
def vx (w : World) : Prop := Tabs w /\ Lib.TabIs Tryz.prog w "internal/strconv.uint64pow10" .u64 Lib.pow10Tab
theorem vx.below {w w' : World} (h : vx w) (hb : Below w.heap.size w w') : vx w':=by
 refine ⟨Tabs.below h.1 hb,?_⟩
 cases hg : Tryz.prog.globalNamed "internal/strconv.uint64pow10" with
 | none =>
  have:=h.2
  unfold Lib.TabIs World.var? at this
  rw [hg] at this
  cases this
 | some g=>exact Joins.tab_stays hg h.2 hb (Nat.le_refl _)
structure PN (B : Nat) (v vn : Value) (N : Int) (os : List Ob) (nm : List ByteArray) (F : Nat -> Prop) (w : World) : Prop where
 ok : ∃ F1 F2,PH B v N (zi os) F1 w /\ NP B vn nm F2 w /\ (∀ b,F1 b -> ¬ F2 b) /\ (∀ b,F b ↔ F1 b \/ F2 b)
 fine : OsOk os
def j9 (B : Nat) (v vn : Value) (N : Int) (F : Nat -> Prop) (w : World) (os' : List Ob) (nm' : List ByteArray) (w' : World) : Prop:=∃ F',PN B v vn N os' nm' F' w' /\ (∀ b,F' b -> F b \/ w.heap.size <= b) /\ Mod F w w'
section
variable {B : Nat} {v vn : Value} {N : Int} {os : List Ob} {nm : List ByteArray} {F : Nat -> Prop} {w w' : World}
theorem PN.ge (h : PN B v vn N os nm F w) : ∀ b,F b -> B <= b /\ b < w.heap.size:=by
 obtain ⟨F1,F2,h1,h2,h3,h4⟩:=h.ok
 exact fun b hb=>((h4 b).1 hb).elim (h1.ge b) (h2.ge b)
theorem PN.keep (h : PN B v vn N os nm F w) (hb : ∀ b,F b -> w'.heap[b]? = w.heap[b]?) : PN B v vn N os nm F w':=by
 obtain ⟨F1,F2,h1,h2,h3,h4⟩:=h.ok
 exact ⟨⟨F1,F2,h1.keep (fun b e=>hb b ((h4 b).2 (.inl e))),h2.keep (fun b e=>hb b ((h4 b).2 (.inr e))),h3,h4⟩,h.fine⟩
theorem PN.on (h : PN B v vn N os nm F w) (hb : Below w.heap.size w w') : PN B v vn N os nm F w':=h.keep (fun b e=>hb.block b (h.ge b e).2)
theorem PN.ptrs (h : PN B v vn N os nm F w) : ∃ gh gp,v = .pointer (some ⟨gh,0,none⟩) /\ vn = .pointer (some ⟨gp,0,none⟩):=by
 obtain ⟨F1,F2,h1,h2,h3,h4⟩:=h.ok
 obtain ⟨gh,e1⟩:=h1.ptr
 obtain ⟨gp,e2⟩:=h2.ptr
 exact ⟨gh,gp,e1,e2⟩
theorem PN.bd (h : PN B v vn N os nm F w) : zc os <= 4194304 /\ N <= 4194304:=by
 obtain ⟨F1,F2,h1,h2,h3,h4⟩:=h.ok
 have hb:=h1.bd
 exact ⟨zaq h1,hb.2⟩
theorem j9.same (h : PN B v vn N os nm F w) (hb : Below w.heap.size w w') : j9 B v vn N F w os nm w':=⟨F,h.on hb,fun b e=>.inl e,Mod.of_below _ hb⟩
theorem zhf1 {W0 W1 W2 : World} {F1 F2 : Nat -> Prop} (h1 : PH W0.heap.size v N [] F1 W1) (b1 : Below W0.heap.size W0 W1) (h2 : NP W1.heap.size vn [] F2 W2) (b2 : Below W1.heap.size W1 W2) : PN W0.heap.size v vn N [] [] (fun b=>F1 b \/ F2 b) W2:=by
 refine ⟨⟨F1,F2,h1.keep (fun b e=>b2.block b (h1.ge b e).2),h2.weak b1.size,fun b e1 e2=>?_,fun b=>Iff.rfl⟩,⟨fun x hx=>(by cases hx),fun x hx=>(by cases hx),fun x hx=>(by cases hx)⟩⟩
 have:=(h1.ge b e1).2
 have:=(h2.ge b e2).1
 omega
theorem zil1 (h : PN B v vn N os nm F w) (s : ByteArray) (hB : B <= w.heap.size) (hl : nm.length <= 1000000) (hs : s.size <= 1000000) :
  Calls Tryz.prog 32 #[vn,.string s] w fun e w'=>e = .returned (.int .i64 (idM nm s : Nat)) /\ j9 B v vn N F w os (idL nm s) w':=by
 obtain ⟨F1,F2,h1,h2,h3,h4⟩:=h.ok
 refine (zex1 s w h2 hB hl hs).mono ?_
 rintro e w' ⟨rfl,F',p1,p2,p4⟩
 refine ⟨rfl,fun b=>F1 b \/ F' b,⟨⟨F1,F',h1.keep (fun b e=>p4.block b (h1.ge b e).2 (h3 b e)),p1,fun b e1 e2=>?_,fun b=>Iff.rfl⟩,h.fine⟩,fun b e=>?_,p4.mono (fun b _ e=>(h4 b).2 (.inr e))⟩
 ·rcases p2 b e2 with e | e
  ·exact h3 b e1 e
  ·have:=(h1.ge b e1).2;omega
 ·rcases e with e | e
  ·exact .inl ((h4 b).2 (.inl e))
  ·rcases p2 b e with e | e
   ·exact .inl ((h4 b).2 (.inr e))
   ·exact .inr e
theorem PN.heap {os' : List Ob} {F1 F2 : Nat -> Prop} (h1 : PH B v N (zi os) F1 w) (h2 : NP B vn nm F2 w) (h3 : ∀ b,F1 b -> ¬ F2 b) (h4 : ∀ b,F b ↔ F1 b \/ F2 b) (hp : zda B v N F1 w (zi os') w') (ho : OsOk os') : j9 B v vn N F w os' nm w':=by
 obtain ⟨F',p1,p2,p4⟩:=hp
 refine ⟨fun b=>F' b \/ F2 b,⟨⟨F',F2,p1,h2.keep (fun b e=>p4.block b (h2.ge b e).2 (fun e1=>h3 b e1 e)),fun b e1 e2=>?_,fun b=>Iff.rfl⟩,ho⟩,fun b e=>?_,p4.mono (fun b _ e=>(h4 b).2 (.inl e))⟩
 ·rcases p2 b e1 with e | e
  ·exact h3 b e e2
  ·have:=(h2.ge b e2).2;omega
 ·rcases e with e | e
  ·rcases p2 b e with e | e
   ·exact .inl ((h4 b).2 (.inl e))
   ·exact .inr e
  ·exact .inl ((h4 b).2 (.inr e))
theorem zqj (h : PN B v vn N os nm F w) (kind : Int) (hk : Z64 kind) (ao : Option Addr) (n cap : Nat) (fl : List Int) (R : URow w ao n cap fl) (hB : B <= w.heap.size) (ha : ∀ a,ao = some a -> ¬ F a.block) (hsm : n <= 1000000) (ho : OsOk (yr os N kind fl)) :
  Calls Tryz.prog 47 #[v,.int .i64 kind,.slice ao n cap] w fun e w'=>e = .returned (.tuple #[.int .u64 (yh os N kind fl).1,.int .i64 (yh os N kind fl).2]) /\ j9 B v vn N F w (yr os N kind fl) nm w':=by
 obtain ⟨F1,F2,h1,h2,h3,h4⟩:=h.ok
 refine (zrw h.fine kind hk ao n cap fl w h1 R hB (fun a e hf=>ha a e ((h4 _).2 (.inl hf))) hsm).mono ?_
 rintro e w' ⟨rfl,hp⟩
 exact ⟨rfl,PN.heap h1 h2 h3 h4 hp ho⟩
end
theorem zxn (ns : List Nd) (rs : List Int) : vk ns rs = if layB ns rs = true then sumN (zg ns rs).1 else -1:=by
 unfold vk layB
 by_cases h : yx ns rs = true /\ (zg ns rs).1.all (fun d=>decide (0 <= zp d)) = true
 ·rw [if_pos h,if_pos (by rw [h.1,h.2];rfl)]
 ·rw [if_neg h,if_neg (fun e=>h (by rw [Bool.and_eq_true] at e;exact e))]
theorem zss {ns : List Nd} {rs : List Int} (h : layB ns rs = true) (hs : qj ns) (hk : ∀ d∈ns,d.kids.length <= 100) (hn : ns.length <= 100) :
  (∀ d∈(zg ns rs).1,LNd d /\ qf (zg ns rs).1.length d = true) /\ (zg ns rs).1.length <= 100 /\ (zg ns rs).2.length = rs.length /\ yx (zg ns rs).1 (zg ns rs).2 = true /\ (zg ns rs).1.all (fun d=>decide (0 <= zp d)) = true:=by
 unfold layB at h
 rw [Bool.and_eq_true] at h
 obtain ⟨c1,c2,c3,c4⟩:=xm h.1 hs hk hn
 have hnd:=zca c4
 refine ⟨fun d hd=>⟨LNd.of (hnd d hd) (c1 d hd) (of_decide_eq_true (List.all_eq_true.1 h.2 d hd)),hnd d hd⟩,c2,c3,c4,h.2⟩
def vy (d : Nd) : List Int:=if d.kind = 7 \/ d.kind = 8 then List.replicate d.kids.length 2 else yb d []
def yk (cs : List Nd) : List Ob:=(cs.filter (fun d=>decide (0 < zp d))).map (fun d=>⟨zv d,vy d⟩)
theorem zdn {d : Nd} (hk : ¬ (d.kind = 7 \/ d.kind = 8)) (hz : 0 < zp d) (ws ws' : List Int) : yb d ws = yb d ws':=by
 unfold zp at hz
 unfold yb
 by_cases h1 : d.kind = 1 \/ d.kind = 2 \/ d.kind = 4 \/ d.kind = 6 \/ d.kind = 10 \/ d.kind = 11
 ·rw [if_pos h1] at hz;omega
 rw [if_neg h1] at hz
 by_cases h3 : d.kind = 3
 ·rw [if_pos h3,if_pos h3]
 rw [if_neg h3] at hz ⊢
 rw [if_neg h3]
 by_cases h5 : d.kind = 5
 ·rw [if_pos h5,if_pos h5]
 rw [if_neg h5] at hz ⊢
 rw [if_neg h5]
 rw [if_neg hk] at hz
 by_cases h9 : d.kind = 9
 ·rw [if_pos h9,if_pos h9]
 rw [if_neg h9] at hz
 omega
theorem zat {d : Nd} (hk : d.kind = 7 \/ d.kind = 8) (ws : List Int) : yb d ws = d.kids.map (fun k=>ws.getD k.toNat 0):=by
 unfold yb
 rw [if_neg (by omega),if_neg (by omega),if_neg (by omega)]
theorem zmm {d : Nd} (hz : 0 < zp d) (ws : List Int) : (vy d).length = (yb d ws).length:=by
 unfold vy
 by_cases hk : d.kind = 7 \/ d.kind = 8
 ·rw [if_pos hk,List.length_replicate,zat hk,List.length_map]
 ·rw [if_neg hk,zdn hk hz]
theorem zxo : isHd 2 = false:=by decide
theorem zib (d : Nd) : ∀ z∈vy d,isHd z = false:=by
 intro z hz
 unfold vy at hz
 split at hz
 ·obtain ⟨_,rfl⟩:=List.mem_replicate.1 hz;exact zxo
 ·exact zgt d (fun z h=>by cases h) z hz
theorem xp (a b : List Nd) : yk (a ++ b) = yk a ++ yk b:=by unfold yk;rw [List.filter_append,List.map_append]
theorem zbk (ws : List Int) (a b : List Nd) : z7 ws (a ++ b) = z7 ws a ++ z7 ws b:=by unfold z7;rw [List.filter_append,List.map_append]
theorem xq (d : Nd) : yk [d] = if 0 < zp d then [⟨zv d,vy d⟩] else []:=by
 unfold yk
 by_cases hz : 0 < zp d
 ·rw [if_pos hz,List.filter_cons_of_pos (by exact decide_eq_true hz)];rfl
 ·rw [if_neg hz,List.filter_cons_of_neg (by rw [decide_eq_false hz];decide)];rfl
theorem zee (ws : List Int) (d : Nd) : z7 ws [d] = if 0 < zp d then [⟨zv d,yb d ws⟩] else []:=by
 unfold z7
 by_cases hz : 0 < zp d
 ·rw [if_pos hz,List.filter_cons_of_pos (by exact decide_eq_true hz)];rfl
 ·rw [if_neg hz,List.filter_cons_of_neg (by rw [decide_eq_false hz];decide)];rfl
theorem zew {cs : List Nd} {q : Nat} (h : q < cs.length) : cs.take (q + 1) = cs.take q ++ [cs.getD q default]:=by
 rw [List.take_succ_eq_append_getElem h,List.getD_eq_getElem?_getD,List.getElem?_eq_getElem h];rfl
theorem zqk {cs : List Nd} {q : Nat} (h : q < cs.length) : cs.drop q = [cs.getD q default] ++ cs.drop (q + 1):=by
 rw [List.drop_eq_getElem_cons h,List.getD_eq_getElem?_getD,List.getElem?_eq_getElem h];rfl
theorem zjn (ws : List Int) : ∀ cs : List Nd,(yk cs).map sh = (z7 ws cs).map sh
 | []=>rfl
 | d :: cs => by
  have h1:=xp [d] cs
  have h2:=zbk ws [d] cs
  rw [List.singleton_append] at h1 h2
  rw [h1,h2,List.map_append,List.map_append,zjn ws cs,xq,zee]
  by_cases hz : 0 < zp d
  ·rw [if_pos hz, if_pos hz]
   show [(zv d,(vy d).length)] ++ _ = [(zv d,(yb d ws).length)] ++ _
   rw [zmm hz ws]
  ·rw [if_neg hz,if_neg hz]
def mixO (ws : List Int) (os : List Ob) (cs : List Nd) (q : Nat) : List Ob:=(os ++ z7 ws (cs.take q)) ++ yk (cs.drop q)
theorem zaz1 (ws : List Int) (os : List Ob) (cs : List Nd) : mixO ws os cs 0 = os ++ yk cs:=by
 unfold mixO;simp [z7]
theorem zey1 (ws : List Int) (os : List Ob) (cs : List Nd) : mixO ws os cs cs.length = os ++ z7 ws cs:=by
 unfold mixO;simp [yk]
theorem zhg1 (ws : List Int) (os : List Ob) (cs : List Nd) (q : Nat) : (mixO ws os cs q).map sh = (os ++ z7 ws cs).map sh:=by
 unfold mixO
 conv=>rhs;rw [<- List.take_append_drop q cs,zbk,<- List.append_assoc]
 rw [List.map_append,List.map_append (l₂:=z7 ws (cs.drop q)),zjn ws]
theorem zba1 {ws : List Int} {os : List Ob} {cs : List Nd} {q : Nat} (h : q < cs.length) (hk : (cs.getD q default).kids = []) : mixO ws os cs (q + 1) = mixO ws os cs q:=by
 unfold mixO
 rw [zew h,zqk h,zbk,xp,<- List.append_assoc,<- List.append_assoc]
 congr 2
 rw [zee,xq]
 by_cases hz : 0 < zp (cs.getD q default)
 ·rw [if_pos hz, if_pos hz]
  congr 2
  unfold vy
  by_cases h7 : (cs.getD q default).kind = 7 \/ (cs.getD q default).kind = 8
  ·rw [if_pos h7,zat h7,hk];rfl
  ·rw [if_neg h7];exact zdn h7 hz _ _
 ·rw [if_neg hz,if_neg hz]
def rowJ (d : Nd) (ws : List Int) (j : Nat) : List Int:=(d.kids.take j).map (fun k=>ws.getD k.toNat 0) ++ List.replicate (d.kids.length - j) 2
theorem zjo {d : Nd} {ws : List Int} {j : Nat} (h : j <= d.kids.length) : (rowJ d ws j).length = d.kids.length:=by
 unfold rowJ;rw [List.length_append,List.length_map,List.length_take,List.length_replicate];omega
theorem zbb1 {d : Nd} {ws : List Int} {j : Nat} (h : j < d.kids.length) : (rowJ d ws j).set j (ws.getD (d.kids.getD j 0).toNat 0) = rowJ d ws (j + 1):=by
 have hl : ((d.kids.take j).map (fun k=>ws.getD k.toNat 0)).length = j:=by rw [List.length_map,List.length_take];omega
 unfold rowJ
 rw [List.set_append_right _ _ (by omega),hl,Nat.sub_self]
 have e1 : d.kids.length - j = (d.kids.length - (j + 1)) + 1:=by omega
 rw [e1,List.replicate_succ,List.set_cons_zero,List.take_succ_eq_append_getElem h,List.map_append,List.append_assoc]
 have e2 : d.kids.getD j 0 = d.kids[j]:=by rw [List.getD_eq_getElem?_getD,List.getElem?_eq_getElem h];rfl
 rw [e2]
 rfl
def midO (ws : List Int) (os : List Ob) (cs : List Nd) (q j : Nat) : List Ob:=(os ++ z7 ws (cs.take q)) ++ (⟨zv (cs.getD q default),rowJ (cs.getD q default) ws j⟩ :: yk (cs.drop (q + 1)))
theorem zau {d : Nd} (hk : d.kind = 7 \/ d.kind = 8) : 0 < zp d:=by
 unfold zp
 rw [if_neg (by omega),if_neg (by omega),if_neg (by omega),if_pos hk]
 omega
theorem zql {ws : List Int} {os : List Ob} {cs : List Nd} {q : Nat} (h : q < cs.length) (hk : (cs.getD q default).kind = 7 \/ (cs.getD q default).kind = 8) : midO ws os cs q 0 = mixO ws os cs q:=by
 unfold midO mixO
 rw [zqk h,xp,xq,if_pos (zau hk)]
 congr 2
 unfold vy
 rw [if_pos hk];rfl
theorem zez1 {ws : List Int} {os : List Ob} {cs : List Nd} {q : Nat} (h : q < cs.length) (hk : (cs.getD q default).kind = 7 \/ (cs.getD q default).kind = 8) : midO ws os cs q (cs.getD q default).kids.length = mixO ws os cs (q + 1):=by
 unfold midO mixO
 rw [zew h,zbk,zee,if_pos (zau hk),<- List.append_assoc,List.append_assoc (os ++ z7 ws (cs.take q))]
 congr 2
 unfold rowJ
 rw [List.take_length,Nat.sub_self,zat hk];simp
section
variable {N : Int} {os : List Ob} {nm : List ByteArray} {cs : List Nd}
theorem zhh1 {ws : List Int} {q j : Nat} (h : q < cs.length) (hk : (cs.getD q default).kind = 7 \/ (cs.getD q default).kind = 8) (hj : j <= (cs.getD q default).kids.length) : (midO ws os cs q j).map sh = (os ++ z7 ws cs).map sh:=by
 rw [<- zhg1 ws os cs q,<- zql h hk]
 unfold midO
 rw [List.map_append (l₁:=os ++ z7 ws (cs.take q)),List.map_append (l₁:=os ++ z7 ws (cs.take q)),List.map_cons,List.map_cons]
 have e : sh ⟨zv (cs.getD q default),rowJ (cs.getD q default) ws j⟩ = sh ⟨zv (cs.getD q default),rowJ (cs.getD q default) ws 0⟩:=by
  show (zv (cs.getD q default),(rowJ (cs.getD q default) ws j).length) = (zv (cs.getD q default),(rowJ (cs.getD q default) ws 0).length)
  rw [zjo hj,zjo (Nat.zero_le _)]
 rw [e]
theorem zfa1 (h : fz N os nm cs) {q j : Nat} (hq : q < cs.length) (hk : (cs.getD q default).kind = 7 \/ (cs.getD q default).kind = 8) (hj : j < (cs.getD q default).kids.length) :
  setM (midO (putS nm (zc os) cs).ws os cs q j) ((putS nm (zc os) cs).ws.getD q 0) 0 (j : Nat) ((putS nm (zc os) cs).ws.getD ((cs.getD q default).kids.getD j 0).toNat 0) = (midO (putS nm (zc os) cs).ws os cs q (j + 1),0):=by
 obtain ⟨k,hf,_,_,_,hkk⟩:=h.place hq (zau hk)
 have hnh:=zmh (zgs (nm:=nm) (a:=zc os) (cs:=cs) cs.length (Nat.le_refl _)) ((cs.getD q default).kids.getD j 0).toNat
 rw [List.take_length] at hnh
 generalize hws : (putS nm (zc os) cs).ws = ws at *
 have hf2 : zr (midO ws os cs q j) (ws.getD q 0) = some k:=by rw [zdh1 (zhh1 hq hk (by omega))];exact hf
 have hg : (midO ws os cs q j).getD k default = ⟨zv (cs.getD q default),rowJ (cs.getD q default) ws j⟩:=by
  unfold midO
  rw [hkk,List.getD_eq_getElem?_getD,List.getElem?_append_right (Nat.le_refl _),Nat.sub_self];rfl
 have hfm : jh (midO ws os cs q j) (ws.getD q 0) 0 (j : Nat) = ((k : Int),0):=by
  unfold jh
  rw [hf2]
  simp only [hg]
  rw [if_neg (by simp),if_neg (by rw [zjo (by omega)];omega)]
 unfold setM
 rw [hfm,if_neg (by simp),if_neg (by unfold isHd at hnh;exact of_decide_eq_false hnh)]
 simp only [Int.toNat_natCast,hg]
 refine congrArg (fun l=>(l,(0 : Int))) ?_
 unfold midO setF
 simp only
 rw [hkk,List.set_append_right _ _ (Nat.le_refl _),Nat.sub_self,List.set_cons_zero,zbb1 hj]
theorem zst {ws : List Int} (cs : List Nd) : zc (yk cs) = zc (z7 ws cs):=znq (zjn ws cs)
theorem zsu (h : fz N os nm cs) {q : Nat} (hq : q < cs.length) (hz : 0 < zp (cs.getD q default)) :
  yh (os ++ yk (cs.take q)) N (zv (cs.getD q default)) (vy (cs.getD q default)) = (zj 2 ((putS nm (zc os) (cs.take q)).at_ : Nat) 0,0) /\ yr (os ++ yk (cs.take q)) N (zv (cs.getD q default)) (vy (cs.getD q default)) = os ++ yk (cs.take (q + 1)):=by
 have hu:=xo (ws:=[]) h.sz q (by omega)
 have hsum:=zjl h.sz (q + 1)
 rw [xl hq] at hsum
 have hk:=zch (cs.getD q default)
 have hl:=fj (ws:=[]) hz
 have hat:=zjk (nm:=nm) (a:=zc os) h.sz q (by omega)
 have hr:=h.room
 have hn:=zmm hz []
 have huu : zc (os ++ yk (cs.take q)) = (putS nm (zc os) (cs.take q)).at_:=by
  rw [y9,zst (ws:=[])];omega
 have hany : (vy (cs.getD q default)).any isHd = false:=by
  rw [List.any_eq_false]
  intro z hz'
  rw [zib _ z hz'];decide
 have hal : yh (os ++ yk (cs.take q)) N (zv (cs.getD q default)) (vy (cs.getD q default)) = (zj 2 ((putS nm (zc os) (cs.take q)).at_ : Nat) 0,0):=by
  unfold yh
  rw [if_neg (by omega),hany,if_neg (by decide),if_neg (by rw [huu];omega),huu]
 refine ⟨hal,?_⟩
 unfold yr
 rw [hal,if_pos rfl,zew hq,xp,xq,if_pos hz,List.append_assoc]
theorem zxp {q : Nat} (hq : q < cs.length) (hz : ¬ 0 < zp (cs.getD q default)) : yk (cs.take (q + 1)) = yk (cs.take q):=by
 rw [zew hq,xp,xq,if_neg hz,List.append_nil]
end
end Go.Proofs.YticimejfjjmikaaGreatDoor
