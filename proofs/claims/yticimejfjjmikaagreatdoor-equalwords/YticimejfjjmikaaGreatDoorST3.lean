import Derived.Test.YticimejfjjmikaaGreatDoorG21
import Derived.Test.YticimejfjjmikaaGreatDoorSG1
import Derived.Test.YticimejfjjmikaaGreatDoorM2
import Derived.Test.YticimejfjjmikaaGreatDoorW36
import Derived.Test.YticimejfjjmikaaGreatDoorW16
import Derived.Test.YticimejfjjmikaaGreatDoorG9
import Derived.Test.YticimejfjjmikaaGreatDoorV4
import Derived.Test.YticimejfjjmikaaGreatDoorU0
import Derived.Test.YticimejfjjmikaaGreatDoorG3
import Derived.Test.YticimejfjjmikaaGreatDoorQ1
import Derived.Test.YticimejfjjmikaaGreatDoorW41
set_option linter.unusedVariables false
set_option linter.unusedSimpArgs false
set_option maxRecDepth 100000
namespace Go.Proofs.YticimejfjjmikaaGreatDoor
open Go.RowKit
def allocs (w : World) : List Obj -> World
 | []=>w
 | o :: os=>allocs (w.alloc o) os
theorem allocs_below : ∀ (os : List Obj) (w : World),Below w.heap.size w (allocs w os)
 | [],w=>Below.refl _ _
 | o :: os,w=>Bt (Ba w o) (allocs_below os (w.alloc o))
theorem allocs_get : ∀ {os : List Obj} {w : World} {i : Nat} {o : Obj},os[i]? = some o -> (allocs w os).heap[w.heap.size + i]? = some o
 | [],_,_,_,h=>by simp at h
 | o' :: os,w,0,o,h=>by
  have e : o' = o:=by simpa using h
  subst e
  exact ((allocs_below os (w.alloc o')).block _ (by rw [size_alloc];omega)).trans (heap_alloc_new _ _)
 | o' :: os,w,i + 1,o,h=>by
  have:=allocs_get (w:=w.alloc o') (os:=os) (i:=i) (o:=o) (by simpa using h)
  rw [size_alloc] at this
  rw [show w.heap.size + (i + 1) = w.heap.size + 1 + i by omega];exact this
theorem lit_nrow {w : World} {g n : Nat} {cs : Array Value} {l : List (Nd × (Option Addr × Nat × Nat))} (h : w.heap[g]? = some (.cells cs 54 (0,0))) (hx : cs.toList = ncs l) (hl : l.length = n) (hn : n <= 1000) (hk : ∀ x∈l,IRow w x.2.1 x.2.2.1 x.2.2.2 x.1.kids) (ho : ∀ x∈l,NdOk x.1) :
  NRow w (some ⟨g,0,none⟩) n n (l.map Prod.fst):=by
 subst hl
 refine ⟨by simp,Nat.le_refl _,by unfold maxLen;omega,fun e=>(by cases e),fun d hd=>?_,.inr ⟨g,0,rfl,(Array.getElem?_eq_some_iff.1 h).1,fun i hi=>?_⟩⟩
 ·obtain ⟨x, hx, rfl⟩ := List.mem_map.1 hd
  exact ho x hx
 ·rw [List.length_map] at hi
  have e : (l.map Prod.fst).getD i default = (l.getD i (default,none,0,0)).1:=by
   rw [List.getD_eq_getElem?_getD,List.getElem?_map,List.getD_eq_getElem?_getD,List.getElem?_eq_getElem hi];rfl
  rw [e]
  have hm : l.getD i (default,none,0,0)∈l:=by rw [List.getD_eq_getElem?_getD,List.getElem?_eq_getElem hi];exact List.getElem_mem hi
  have hc : ∀ j,j < 4 -> w.cell? ⟨g,0 + i * 4 + j,none⟩ = (nc (l.getD i (default,none,0,0)))[j]?:=fun j hj=>by
   rw [blk_cell h,Nat.zero_add,<- ncs_get hi hj,<- hx,Array.getElem?_toList]
  exact ⟨hc 0 (by omega),hc 1 (by omega),hc 2 (by omega),_,_,_,hc 3 (by omega),hk _ hm⟩
section
variable {P : Program} {w : World} {ops : Array Oper} {o : Oper} {a : Act} {K : Act -> World -> Prop} {Q : Exit -> Act -> World -> Prop} {E : Prop}
theorem stepInts (dst : Option Nat) (hdst : o.dst = dst) (hgd : o.guard = none) (s x : Operand) (t : TypeId) (ho : o.op = .call { callee:=.builtin .append,args:=#[s,x],argTypes:=#[t,t] })
  (base : Nat) (e : TypeId) (ht : P.underlying t = some (.slice e)) (hi : (P.info? e).map (fun i=>(i.zero,i.size,i.bytes)) = some (some (.int .i64 0),1,8))
  (v : Value) (n : Nat) (l : List Int) (hs : a.eval s = v) (hown : w.ownsRow base e 1 v n (cz l))
  (ao : Option Addr) (m c : Nat) (r : List Int) (hx : a.eval x = .slice ao m c) (hr : IRow w ao m c r) (hsm : n + m <= 1000000) (hbase : base <= w.heap.size)
  (h : ∀ v' w',w'.ownsRow base e 1 v' (n + m) (cz (l ++ r)) -> w.grownBy w' v.ownBlock -> K (a.put dst v') w') :
  if Region.wanted o (yielded ops a.tmps) = true then Oper.wp P o a w K Q else E:=by
 subst hdst
 have hw : Region.wanted o (yielded ops a.tmps) = true:=by simp [Region.wanted,hgd]
 rw [if_pos hw]
 obtain ⟨i0,hi0,hz0,hz1,hz2⟩:=info_parts hi
 cases ao with
 | none =>
  have hc:=hr.nil_ rfl
  subst hc
  have hm : m = 0:=by have:=hr.fits;omega
  subst hm
  have hl2 : r = []:=List.length_eq_zero_iff.1 hr.len
  subst hl2
  have hrun:=run_append_owned_none (P:=P) (w:=w) base t o.type e i0 1 ht hi0 v n (cz l) hown
  unfold Oper.wp
  simp [execOp,ho,resolve,invoke,builtin,hs,hx,hrun,Result.andThen]
  exact h v w (by simpa using hown) ⟨rfl,rfl,rfl,Nat.le_refl _,fun _ _ _=>rfl⟩
 | some ad =>
  refine wp_append_own w s x t ho base e i0 (.int .i64 0) 1 8 ht hi0 hz0 hz1 hz2 rfl (by decide) v n (cz l) hs hown ad m c (cz r) hx (by rw [cz_length,hr.len];omega) ?_ ?_ (by unfold maxLen;omega) (by omega) hbase ?_
  ·intro j u hj
   have hjl : j < r.length:=by
    have:=(List.getElem?_eq_some_iff.1 hj).1
    rwa [cz_length] at this
   rw [cz_get hjl] at hj
   cases hj
   obtain ⟨b,o',hao,_,hc⟩:=hr.some (by have:=hr.len;omega)
   cases hao
   have:=hc j (by have:=hr.len;omega)
   unfold Addr.add
   by_cases hj0 : j = 0
   ·subst hj0;simpa using this
   ·rw [if_neg hj0];exact this
  ·intro u hu
   unfold cz at hu
   obtain ⟨z,_,rfl⟩:=List.mem_map.1 hu
   rfl
  ·intro v' w' h1 h2 _
   rw [<- cz_append] at h1
   exact h v' w' h1 h2
end
theorem or_u64_0 (d : Nat) (h : d < 4294967296) : bits .or .u64 0 (d : Int) = ((d : Nat) : Int):=by
 have:=u64_or_nat 0 d (by omega) (by omega)
 rw [Nat.zero_or] at this;exact this
theorem or_u64_32 (a d : Nat) (h1 : a < 4294967296) (h2 : d < 4294967296) : bits .or .u64 (a : Int) ((d : Int) * 4294967296) = ((a + 4294967296 * d : Nat) : Int):=by
 rw [show ((d : Int) * 4294967296) = ((d * 4294967296 : Nat) : Int) by omega,u64_or_nat _ _ (by omega) (by omega),Nat.or_comm,nat_join 32 _ _ (by omega) (by omega)];omega
def fits (z : Int) : Bool:=decide (-9223372036854775808 <= z /\ z <= 9223372036854775807)
theorem long_not_fits {s : Bool} {l : List Nat} (hg : goodB s l = true) (h : 2 < l.length) : fits (sgn s (val B32 l)) = false:=by
 have h1:=(goodB_tr hg).pos (B:=B32) (by decide) (by intro e;simp [e] at h)
 have h2 : B32 ^ 2 <= B32 ^ (l.length - 1):=Nat.pow_le_pow_right (by decide) (by omega)
 have h3 : B32 ^ 2 = 18446744073709551616:=by decide
 unfold fits sgn
 cases s <;> simp <;> omega
theorem short_lt {l : List Nat} (hd : Dg B32 l) (h : l.length <= 2) : val B32 l <= 18446744073709551615:=by
 have h1:=val_lt hd
 have h2 : B32 ^ l.length <= B32 ^ 2:=Nat.pow_le_pow_right (by decide) h
 have h3 : B32 ^ 2 = 18446744073709551616:=by decide
 omega
theorem wrap_neg (a : Nat) (h : a <= 9223372036854775808) : wrap64 (IntKind.u64.wrap (-(a : Int))) = -(a : Int):=by
 rw [IntKind.wrap_u64];unfold wrap64;omega
def ToPost (w : World) (z : Int) (e : Ending) (w' : World) : Prop:=∃ v,e = .returned (.tuple #[.int .i64 v,.bool (fits z)]) /\ (fits z = true -> v = z) /\ Below w.heap.size w w'
theorem toPost_no {w w' : World} {z v : Int} (hf : fits z = false) (hb : Below w.heap.size w w') : ToPost w z (.returned (.tuple #[.int .i64 v,.bool false])) w' :=
 ⟨v,by rw [hf],fun h=>(by rw [hf] at h;cases h),hb⟩
theorem toPost_yes {w w' : World} {z v : Int} (hf : fits z = true) (hv : v = z) (hb : Below w.heap.size w w') : ToPost w z (.returned (.tuple #[.int .i64 v,.bool true])) w' :=
 ⟨v,by rw [hf],fun _=>hv,hb⟩
set_option maxRecDepth 100000 in
set_option maxHeartbeats 1000000 in
theorem to_any (neg : Bool) (ao : Option Addr) (n cap : Nat) (l : List Nat) (w : World) (R : Row .u32 B32 w ao n cap l) (g : goodB neg l = true) :
  Calls Tryz.prog 181 #[.agg #[.bool neg,.slice ao n cap]] w (ToPost w (sgn neg (val B32 l))):=by
 have hmx:=R.most
 have hft:=R.fits
 unfold maxLen at hmx
 have HR:=hid R
 have G:=hid g
 have HL:=hid R.len
 clear R g
 go_enter Tryz.func181,Tryz.ntmps181
 go_wp2_with fail
 refine (good_any neg ao n cap l _ (HR.out.below (Ba _ _))).mono ?_
 rintro e w1 ⟨rfl,hb1⟩
 rw [G.out]
 have X:=hid ((Box.new 104 w neg ao n cap).on hb1)
 obtain ⟨c0,c1⟩:=X.out.c
 have HB:=hid (Bt (Ba w (.cells #[.bool neg,.slice ao n cap] 104)) hb1)
 have R1:=hid (HR.out.below HB.out)
 clear hb1 HR
 by_cases h2 : 2 < n
 ·have e2 : decide ((2 : Int) < n) = true := by simp; omega
  have HF:=hid (long_not_fits G.out (by rw [HL.out];exact h2))
  go_wp2
  go_ret2
  exact toPost_no HF.out HB.out
 ·have e2 : decide ((2 : Int) < n) = false := by simp; omega
  have hV:=short_lt R1.out.dg (by rw [HL.out];omega)
  obtain ⟨V,hVV⟩ : ∃ V,V = val B32 l:=⟨_,rfl⟩
  rw [<- hVV] at hV
  have HV:=hid hVV
  clear hVV
  go_wp2
  go_loop [4,5,6,19] (fun m _ _ i=>∃ k a : Nat,k <= n /\ i = .int .i64 k /\ m = .int .u64 a /\ Hid (a = val B32 (l.take k))) (fun _ _ _ i=>n - (intOf i).toNat)
  case atStart=>exact ⟨0,0,Nat.zero_le _,rfl,rfl,by simp [Hid,val]⟩
  case round =>
   obtain ⟨k,a,hk,rfl,rfl,ha⟩:=hrel
   by_cases hlt : k < n
   ·obtain ⟨b, o, rfl, hl, hc⟩ := R1.out.rd.some (by rw [HL.out]; omega)
    have hck:=hc k (by rw [HL.out];exact hlt)
    obtain ⟨d,hd⟩ : ∃ d,d = l.getD k 0:=⟨_,rfl⟩
    rw [<- hd] at hck
    have hdb : d < 4294967296:=by rw [hd];exact R1.out.dg.getD _ (by rw [HL.out];exact hlt)
    have HS : Hid (val B32 (l.take (k + 1)) = a + B32 ^ k * d):=by
     unfold Hid;rw [val_take_succ B32 l k (by rw [HL.out];exact hlt),<- ha.out,<- hd]
    clear hd hc
    have hk2 : k = 0 \/ k = 1:=by omega
    rcases hk2 with rfl | rfl
    ·obtain rfl : a = 0 := by have := ha.out; simpa [val] using this
     have hor:=or_u64_0 d hdb
     simp only [Nat.add_zero] at hck
     go_wp2
     exact ⟨⟨1,d,by omega,rfl,rfl,by unfold Hid;rw [HS.out];simp⟩,by simp [intOf];omega⟩
    ·have hab : a < 4294967296 := by
      have h1:=ha.out
      have h2:=val_lt (R1.out.dg.take 1)
      have h3 : B32 ^ (l.take 1).length <= B32 ^ 1:=Nat.pow_le_pow_right (by decide) (by rw [List.length_take];omega)
      have h4 : B32 ^ 1 = 4294967296:=by decide
      omega
     have hor:=or_u64_32 a d hab hdb
     obtain ⟨A,hA⟩ : ∃ A,A = a + 4294967296 * d:=⟨_,rfl⟩
     rw [<- hA] at hor
     have HA:=hid hA
     clear hA
     go_wp2
     exact ⟨⟨2,A,by omega,rfl,rfl,by unfold Hid;rw [HS.out,HA.out];simp [B32]⟩,by simp [intOf];omega⟩
   ·have haV : a = V := by rw [ha.out, HV.out, List.take_of_length_le (by rw [HL.out]; omega)]
    subst haV
    clear ha
    cases neg
    ·by_cases hf : a <= 9223372036854775807
     ·have HF : Hid (fits (sgn false a) = true) := by unfold Hid fits sgn; simp; omega
      have ec : decide ((a : Int) < 9223372036854775808) = true:=by rw [decide_eq_true_eq];omega
      go_wp2
      go_ret2
      rw [<- HV.out]
      exact toPost_yes HF.out (by simp [sgn]) HB.out
     ·have HF : Hid (fits (sgn false a) = false) := by unfold Hid fits sgn; simp; omega
      have ec : decide ((a : Int) < 9223372036854775808) = false:=by rw [decide_eq_false_iff_not];omega
      go_wp2
      go_ret2
      rw [<- HV.out]
      exact toPost_no HF.out HB.out
    ·by_cases hf : a <= 9223372036854775808
     ·have HF : Hid (fits (sgn true a) = true) := by unfold Hid fits sgn; simp; omega
      go_wp2
      go_ret2
      rw [<- HV.out]
      exact toPost_yes HF.out ((wrap_neg a hf).trans (by simp [sgn])) HB.out
     ·have HF : Hid (fits (sgn true a) = false) := by unfold Hid fits sgn; simp; omega
      go_wp2
      go_ret2
      rw [<- HV.out]
      exact toPost_no HF.out HB.out
theorem wrap_negneg (a : Nat) (h : a <= 9223372036854775808) : wrap64 (-(wrap64 (a : Int))) = -(a : Int):=by
 unfold wrap64;omega
set_option maxRecDepth 100000 in
set_option maxHeartbeats 1000000 in
theorem rto_any (neg : Bool) (ao : Option Addr) (n cap : Nat) (l : List Nat) (w : World) (R : Row .u32 B32 w ao n cap l) (g : goodB neg l = true) :
  Calls Tryz.prog 151 #[.agg #[.bool neg,.slice ao n cap]] w (ToPost w (sgn neg (val B32 l))):=by
 have hmx:=R.most
 have hft:=R.fits
 unfold maxLen at hmx
 have G:=hid g
 have HL:=hid R.len
 have HR:=hid R
 clear R g
 by_cases h2 : 2 < n
 ·have e2 : decide ((2 : Int) < n) = true := by simp; omega
  have HF:=hid (long_not_fits G.out (by rw [HL.out];exact h2))
  go_enter Tryz.func151,Tryz.ntmps151
  go_wp2
  go_ret2
  exact toPost_no HF.out (Ba _ _)
 ·have e2 : decide ((2 : Int) < n) = false := by simp; omega
  have hV:=short_lt HR.out.dg (by rw [HL.out];omega)
  obtain ⟨V,hVV⟩ : ∃ V,V = val B32 l:=⟨_,rfl⟩
  rw [<- hVV] at hV
  have HV:=hid hVV
  clear hVV
  go_enter Tryz.func151,Tryz.ntmps151
  go_wp2
  have X:=Box.new 104 w neg ao n cap
  have bW:=Ba w (.cells #[.bool neg,.slice ao n cap] 104)
  generalize hW : w.alloc (.cells #[.bool neg,.slice ao n cap] 104) = W at *
  have R1:=hid (HR.out.below bW)
  have HB:=hid bW
  obtain ⟨c0,c1⟩:=X.c
  clear hW bW X HR
  go_loop [4,5] (fun m i=>∃ k a : Nat,k <= n /\ i = .int .i64 k /\ m = .int .u64 a /\ Hid (a = val B32 (l.take k))) (fun _ i=>n - (intOf i).toNat)
  case atStart=>exact ⟨0,0,Nat.zero_le _,rfl,rfl,by simp [Hid,val]⟩
  case round =>
   obtain ⟨k,a,hk,rfl,rfl,ha⟩:=hrel
   by_cases hlt : k < n
   ·obtain ⟨b, o, rfl, hl, hc⟩ := R1.out.rd.some (by rw [HL.out]; omega)
    have hck:=hc k (by rw [HL.out];exact hlt)
    obtain ⟨d,hd⟩ : ∃ d,d = l.getD k 0:=⟨_,rfl⟩
    rw [<- hd] at hck
    have hdb : d < 4294967296:=by rw [hd];exact R1.out.dg.getD _ (by rw [HL.out];exact hlt)
    have HS : Hid (val B32 (l.take (k + 1)) = a + B32 ^ k * d):=by
     unfold Hid;rw [val_take_succ B32 l k (by rw [HL.out];exact hlt),<- ha.out,<- hd]
    clear hd hc
    have hk2 : k = 0 \/ k = 1:=by omega
    rcases hk2 with rfl | rfl
    ·obtain rfl : a = 0 := by have := ha.out; simpa [val] using this
     have hor:=or_u64_0 d hdb
     simp only [Nat.add_zero] at hck
     go_wp2
     go_round
     case rel=>exact ⟨1,d,by omega,rfl,rfl,by unfold Hid;rw [HS.out];simp⟩
     case measure=>simp [intOf];omega
    ·have hab : a < 4294967296 := by
      have h1:=ha.out
      have h2:=val_lt (R1.out.dg.take 1)
      have h3 : B32 ^ (l.take 1).length <= B32 ^ 1:=Nat.pow_le_pow_right (by decide) (by rw [List.length_take];omega)
      have h4 : B32 ^ 1 = 4294967296:=by decide
      omega
     have hor:=or_u64_32 a d hab hdb
     obtain ⟨A,hA⟩ : ∃ A,A = a + 4294967296 * d:=⟨_,rfl⟩
     rw [<- hA] at hor
     have HA:=hid hA
     clear hA
     go_wp2
     go_round
     case rel=>exact ⟨2,A,by omega,rfl,rfl,by unfold Hid;rw [HS.out,HA.out];simp [B32]⟩
     case measure=>simp [intOf];omega
   ·have haV : a = V := by rw [ha.out, HV.out, List.take_of_length_le (by rw [HL.out]; omega)]
    subst haV
    clear ha
    cases neg
    ·by_cases hf : a <= 9223372036854775807
     ·have HF : Hid (fits (sgn false a) = true) := by unfold Hid fits sgn; simp; omega
      have ec : decide ((9223372036854775808 : Int) <= a) = false:=by rw [decide_eq_false_iff_not];omega
      go_wp2
      go_ret2
      rw [<- HV.out]
      exact toPost_yes HF.out (by simp [sgn]) HB.out
     ·have HF : Hid (fits (sgn false a) = false) := by unfold Hid fits sgn; simp; omega
      have ec : decide ((9223372036854775808 : Int) <= a) = true:=by rw [decide_eq_true_eq];omega
      go_wp2
      go_ret2
      rw [<- HV.out]
      exact toPost_no HF.out HB.out
    ·by_cases hf : a <= 9223372036854775808
     ·have HF : Hid (fits (sgn true a) = true) := by unfold Hid fits sgn; simp; omega
      have ec : decide ((a : Int) <= 9223372036854775808) = true:=by rw [decide_eq_true_eq];omega
      go_wp2
      go_ret2
      rw [<- HV.out]
      exact toPost_yes HF.out ((wrap_negneg a hf).trans (by simp [sgn])) HB.out
     ·have HF : Hid (fits (sgn true a) = false) := by unfold Hid fits sgn; simp; omega
      have ec : decide ((a : Int) <= 9223372036854775808) = false:=by rw [decide_eq_false_iff_not];omega
      go_wp2
      go_ret2
      rw [<- HV.out]
      exact toPost_no HF.out HB.out
theorem sword_any (k n : Int) (hk : Z64 k) (hn : Z64 n) (w : World) : Calls Tryz.prog 146 #[.int .i64 k,.int .i64 n] w fun e w'=>e = .returned (.int .u64 (wordR k n 0)) /\ Below w.heap.size w w':=by
 have C:=hid (rword_any k n 0 hk hn (by unfold Z64;omega) w)
 unfold SVal at C
 obtain ⟨x,hx⟩ : ∃ x,x = wordR k n 0:=⟨_,rfl⟩
 obtain ⟨b,hb⟩ : ∃ x,x = rightB k n 0:=⟨_,rfl⟩
 rw [<- hx,<- hb] at C
 rw [<- hx]
 clear hx hb
 go_enter Tryz.func146,Tryz.ntmps146
 go_wp2_with (go_at_call 147;(with_reducible refine C.out.mono ?_);rintro e W1 ⟨rfl,b1⟩)
 go_ret
 exact ⟨rfl,b1⟩
def ltF (s : ByteArray) : Nat -> Nat -> List Int
 | 0,_=>[]
 | f + 1,i=>if i < s.size then ((runeD s i).1 : Int) :: ltF s f (i + max 1 (runeD s i).2) else []
def ltrs (s : ByteArray) : List Int:=ltF s s.size 0
theorem ltF_len (s : ByteArray) : ∀ f i,(ltF s f i).length <= f
 | 0,_=>Nat.le_refl _
 | f + 1,i=>by
  unfold ltF
  split
  ·have:=ltF_len s f (i + max 1 (runeD s i).2);simp;omega
  ·simp
theorem ltrs_len (s : ByteArray) : (ltrs s).length <= s.size:=ltF_len s _ _
set_option maxHeartbeats 4000000 in
theorem letters_any (s : ByteArray) (hs : s.size <= 1000000) (w : World) : Calls Tryz.prog 145 #[.string s] w fun e w'=>∃ v,e = .returned v /\ w'.ownsRow w.heap.size 3 1 v (ltrs s).length (iz (ltrs s)) /\ Below w.heap.size w w':=by
 go_enter Tryz.func145,Tryz.ntmps145
 go_wp2_with fail
 go_loopw [3,4] (fun v i wr=>∃ p : Nat,i = .int .i64 p /\ p <= s.size + 4 /\ Hid (∃ ls f,wr.ownsRow w.heap.size 3 1 v ls.length (iz ls) /\ Below w.heap.size w wr /\ ltrs s = ls ++ ltF s f p /\ (s.size - p <= f) /\ ls.length <= p)) (fun _ i _=>s.size + 5 - (intOf i).toNat)
 case atStart=>exact ⟨0,rfl,by omega,[],s.size,World.ownsRow_nil _ _ _ _,Below.refl _ _,rfl,by omega,by simp⟩
 case round =>
  obtain ⟨p,rfl,hp,hI⟩:=hrel
  obtain ⟨ls,f,ho,hb,hl,hf,hlp⟩:=hI.out
  have HO:=hid ho
  have HB:=hid hb
  have HL:=hid hl
  clear hI ho hb hl
  by_cases hlt : p < s.size
  ·have C := hid (rune_any s p wr hlt hs)
   unfold RunePost at C
   have hd:=decode_le s p
   have hk4 : (runeD s p).2 <= 4:=by
    unfold runeD
    split
    ·exact Nat.zero_le _
    ·exact hd.2
   have HLT : Hid (ltF s f p = ((runeD s p).1 : Int) :: ltF s (f - 1) (p + max 1 (runeD s p).2)):=by
    unfold Hid
    obtain ⟨g,rfl⟩ : ∃ g,f = g + 1:=⟨f - 1,by omega⟩
    rw [ltF,if_pos hlt];rfl
   obtain ⟨⟨c,k⟩,hck⟩ : ∃ x,x = runeD s p:=⟨_,rfl⟩
   rw [<- hck] at C hk4 HLT
   simp only at C hk4 HLT
   obtain ⟨n,hn⟩ : ∃ n,n = ls.length:=⟨_,rfl⟩
   rw [<- hn] at HO hlp
   have HN:=hid hn
   clear hck hd hn
   have arm : Hid (∀ wq : World,Below w.heap.size w wq -> wq.heap.size = wr.heap.size -> wq.ownsRow w.heap.size 3 1 u3 n (iz ls) -> (wq.alloc (.cells #[.int .i64 (c : Nat)] 3)).ownsRow w.heap.size 3 1 u3 n (iz ls) /\ (wq.alloc (.cells #[.int .i64 (c : Nat)] 3)).cell? ⟨wq.heap.size,0,none⟩ = some (.int .i64 (c : Nat)) /\ w.heap.size <= (wq.alloc (.cells #[.int .i64 (c : Nat)] 3)).heap.size):=fun wq hb hsz h=>⟨own_at h (fun b e=>(Ba wq _).block b (h.lt b e).2),blk_cell (blk_new wq #[.int .i64 (c : Nat)] 3) 0,by have:=hb.size;rw [size_alloc];omega⟩
   by_cases hk : k = 0
   ·subst hk
    go_wp2_with (first
     | (go_at_call 141;(with_reducible refine C.out.mono ?_);rintro e W1 ⟨rfl,kd,hw1⟩;have b1 : Below wr.heap.size wr W1:=(by rw [hw1];exact Bd wr kd);have HB1:=hid (Bt HB.out b1);have HO1:=hid (own_at HO.out (fun b e=>b1.block b (HO.out.lt b e).2));obtain ⟨a1,a2,a3⟩:=arm.out W1 HB1.out (by rw [hw1];rfl) HO1.out;have A1:=hid a1;have A2:=hid a2;have A3:=hid a3;have HBA:=hid (Bt HB1.out (Ba W1 (.cells #[.int .i64 (c : Nat)] 3)));clear b1 hw1 a1 a2 a3)
     | (at_builtin;refine appi rfl _ _ 32 rfl w.heap.size 3 Tryz.underlying32 info_iz _ n ls rfl A1.out ⟨W1.heap.size,0,none⟩ 1 (c : Nat) rfl A2.out (by omega) A3.out ?_;intro g cap w3 ho3 hg3 hl3 hlt3))
    have HE : Hid (Below w.heap.size w w3):=HBA.out.grown hg3 A3.out (fun b hb=>(A1.out.lt b hb).1)
    refine ⟨⟨p + 1,by go_num,by omega,ls ++ [(c : Int)],f - 1,?_,HE.out,?_,by omega,by rw [List.length_append,<- HN.out];simp;omega⟩,by simp [intOf] <;> omega⟩
    ·rw [List.length_append,<- HN.out];exact ho3
    ·rw [HL.out,HLT.out,List.append_assoc];rfl
   ·have hk1 : 1 <= k := by omega
    have ek : ((k : Int) == 0) = false:=by simp;omega
    have hmx : Hid (max 1 k = k):=Nat.max_eq_right hk1
    rw [hmx.out] at HLT
    clear hk
    go_wp2_with (first
     | (go_at_call 141;(with_reducible refine C.out.mono ?_);rintro e W1 ⟨rfl,kd,hw1⟩;have b1 : Below wr.heap.size wr W1:=(by rw [hw1];exact Bd wr kd);have HB1:=hid (Bt HB.out b1);have HO1:=hid (own_at HO.out (fun b e=>b1.block b (HO.out.lt b e).2));obtain ⟨a1,a2,a3⟩:=arm.out W1 HB1.out (by rw [hw1];rfl) HO1.out;have A1:=hid a1;have A2:=hid a2;have A3:=hid a3;have HBA:=hid (Bt HB1.out (Ba W1 (.cells #[.int .i64 (c : Nat)] 3)));clear b1 hw1 a1 a2 a3)
     | (at_builtin;refine appi rfl _ _ 32 rfl w.heap.size 3 Tryz.underlying32 info_iz _ n ls rfl A1.out ⟨W1.heap.size,0,none⟩ 1 (c : Nat) rfl A2.out (by omega) A3.out ?_;intro g cap w3 ho3 hg3 hl3 hlt3))
    have HE : Hid (Below w.heap.size w w3):=HBA.out.grown hg3 A3.out (fun b hb=>(A1.out.lt b hb).1)
    refine ⟨⟨p + k,by go_num,by omega,ls ++ [(c : Int)],f - 1,?_,HE.out,?_,by omega,by rw [List.length_append,<- HN.out];simp;omega⟩,by simp [intOf] <;> omega⟩
    ·rw [List.length_append,<- HN.out];exact ho3
    ·rw [HL.out,HLT.out,List.append_assoc];rfl
  ·go_wp2_with fail
   go_ret
   have he : ltF s f p = []:=by
    cases f with
    | zero=>rfl
    | succ f=>rw [ltF,if_neg hlt]
   have hl:=HL.out
   rw [he,List.append_nil] at hl
   rw [hl]
   exact ⟨_,rfl,HO.out,HB.out⟩
def mgF : Nat -> Nat -> List Nat
 | 0,_=>[]
 | f + 1,v=>if v = 0 then [] else (v % B32) :: mgF f (v / B32)
def mg (v : Nat) : List Nat:=mgF v v
theorem mgF_ok : ∀ f v,v <= f -> Dg B32 (mgF f v) /\ Tr (mgF f v) /\ val B32 (mgF f v) = v /\ (v ≠ 0 -> mgF f v ≠ [])
 | 0,v,h=>by
  obtain rfl : v = 0:=by omega
  exact ⟨Dg.nil _,Tr.nil,rfl,fun h=>absurd rfl h⟩
 | f + 1, v, h => by
  have hB : B32 = 4294967296:=rfl
  by_cases hv : v = 0
  ·subst hv;simp [mgF,val];exact ⟨Dg.nil _,Tr.nil⟩
  ·obtain ⟨h1, h2, h3, h4⟩ := mgF_ok f (v / B32) (by rw [hB]; omega)
   have e : mgF (f + 1) v = (v % B32) :: mgF f (v / B32):=by simp [mgF,hv]
   rw [e]
   refine ⟨fun x hx=>?_,.inr ?_,?_,fun _=>by simp⟩
   ·rcases List.mem_cons.1 hx with rfl | hx
    ·rw [hB];omega
    ·exact h1 x hx
   ·by_cases h0 : v / B32 = 0
    ·have : mgF f (v / B32) = [] := by rw [h0]; cases f <;> simp [mgF]
     rw [this];simp;rw [hB] at h0 ⊢;omega
    ·have hne := h4 h0
     have:=h2.resolve_left hne
     obtain ⟨n,hn⟩ : ∃ n,(mgF f (v / B32)).length = n + 1:=⟨(mgF f (v / B32)).length - 1,by have:=List.length_pos_iff.2 hne;omega⟩
     rw [List.length_cons,hn]
     rw [hn] at this
     simpa using this
   ·rw [val_cons,h3,hB];omega
theorem mg_is {l : List Nat} {v : Nat} (hd : Dg B32 l) (ht : Tr l) (hv : val B32 l = v) : l = mg v:=by
 obtain ⟨h1,h2,h3,_⟩:=mgF_ok v v (Nat.le_refl _)
 exact digits_unique (by decide) hd h1 ht h2 (hv.trans h3.symm)
def FixPost (z : Int) (w : World) (e : Ending) (w' : World) : Prop:=∃ v,e = .returned (.tuple #[.int .i64 v,.bool (fixB z)]) /\ (fixB z = true -> v = z) /\ Below w.heap.size w w'
theorem fixed_any (neg : Bool) (ao : Option Addr) (n cap : Nat) (l : List Nat) (w : World) (R : Row .u32 B32 w ao n cap l) (g : goodB neg l = true) :
  Calls Tryz.prog 99 #[.agg #[.bool neg,.slice ao n cap]] w fun e w'=>FixPost (sgn neg (val B32 l)) w e w':=by
 have b0:=Ba w (.cells #[.bool neg,.slice ao n cap] 104)
 have C:=hid (rto_any neg ao n cap l (w.alloc (.cells #[.bool neg,.slice ao n cap] 104)) (R.below b0) g)
 unfold ToPost at C
 have hx:=blk_new w #[.bool neg,.slice ao n cap] 104
 have c0 : (w.alloc (.cells #[.bool neg,.slice ao n cap] 104)).cell? ⟨w.heap.size,0,none⟩ = some (.bool neg):=blk_cell hx 0
 have c1 : (w.alloc (.cells #[.bool neg,.slice ao n cap] 104)).cell? ⟨w.heap.size,1,none⟩ = some (.slice ao n cap):=blk_cell hx 1
 have HB:=hid b0
 obtain ⟨z,hz⟩ : ∃ z,z = sgn neg (val B32 l):=⟨_,rfl⟩
 rw [<- hz] at C ⊢
 clear R g hx b0 hz
 by_cases hf : fits z = true
 ·rw [hf] at C
  obtain ⟨h1,h2⟩:=of_decide_eq_true hf
  clear hf
  by_cases k1 : -1152921504606846976 <= z
  ·by_cases k2 : z < 1152921504606846976
   ·have HFX : Hid (fixB z = true) := by unfold Hid fixB; rw [decide_eq_true k1, decide_eq_true k2]; rfl
    go_enter Tryz.func99,Tryz.ntmps99
    go_wp2_with (go_at_call 151;(with_reducible refine C.out.mono ?_);rintro e W1 ⟨v,rfl,hv,b1⟩;rw [hv rfl];have HB1:=hid (Bt HB.out b1);clear b1 hv)
    go_ret2
    unfold FixPost;rw [HFX.out];exact ⟨_,rfl,fun _=>rfl,HB1.out⟩
   ·have HFX : Hid (fixB z = false) := by unfold Hid fixB; rw [decide_eq_false k2]; simp
    have k2d : decide (z < 1152921504606846976) = false:=decide_eq_false k2
    go_enter Tryz.func99,Tryz.ntmps99
    go_wp2_with (go_at_call 151;(with_reducible refine C.out.mono ?_);rintro e W1 ⟨v,rfl,hv,b1⟩;rw [hv rfl];have HB1:=hid (Bt HB.out b1);clear b1 hv)
    go_ret2
    unfold FixPost;rw [HFX.out];exact ⟨_,rfl,fun h=>(by cases h),HB1.out⟩
  ·have HFX : Hid (fixB z = false) := by unfold Hid fixB; rw [decide_eq_false k1]; simp
   have k1d : decide (-1152921504606846976 <= z) = false:=decide_eq_false k1
   go_enter Tryz.func99,Tryz.ntmps99
   go_wp2_with (go_at_call 151;(with_reducible refine C.out.mono ?_);rintro e W1 ⟨v,rfl,hv,b1⟩;rw [hv rfl];have HB1:=hid (Bt HB.out b1);clear b1 hv)
   go_ret2
   unfold FixPost;rw [HFX.out];exact ⟨_,rfl,fun h=>(by cases h),HB1.out⟩
 ·have hf' : fits z = false := by simpa using hf
  rw [hf'] at C
  have HFX : Hid (fixB z = false):=by
   unfold Hid fixB
   have:=of_decide_eq_false hf'
   by_cases k1 : -1152921504606846976 <= z
   ·rw [decide_eq_true k1,decide_eq_false (by omega)];rfl
   ·rw [decide_eq_false k1];rfl
  clear hf hf'
  go_enter Tryz.func99,Tryz.ntmps99
  go_wp2_with (go_at_call 151;(with_reducible refine C.out.mono ?_);rintro e W1 ⟨v,rfl,hv,b1⟩;have HB1:=hid (Bt HB.out b1);clear b1 hv)
  go_ret2
  unfold FixPost;rw [HFX.out];exact ⟨_,rfl,fun h=>(by cases h),HB1.out⟩
def txZ (t : ByteArray) : Int:=sgn ((cutS (bs t)).1 && decide (hv 10 (cutS (bs t)).2 ≠ 0)) (hv 10 (cutS (bs t)).2)
theorem txt_parse (t : ByteArray) (ht : t.size <= 5000) (hp : printedB t = true) (w : World) : Calls Tryz.prog 80 #[.string t,.int .i64 10] w fun e w'=>∃ neg ao n cap l,e = .returned (.tuple #[.agg #[.bool neg,.slice ao n cap],.int .i64 0]) /\ Row .u32 B32 w' ao n cap l /\ goodB neg l = true /\ sgn neg (val B32 l) = txZ t /\ l = mg (txZ t).natAbs /\ n <= 40 /\ Below w.heap.size w w':=by
 refine (rparse_any t 10 w ht).mono ?_
 rintro e w' ⟨x,en,rfl,hb,h⟩
 unfold printedB at hp
 simp only [Bool.and_eq_true,decide_eq_true_eq] at hp
 obtain ⟨⟨p1,p2⟩,p3⟩:=hp
 rcases h with ⟨h1,_⟩ | ⟨_,h2,_⟩ | ⟨_,_,h⟩
 ·exact absurd ⟨by omega,by omega⟩ h1
 ·rw [p1] at h2;cases h2
 ·rcases ans_int h with ⟨a1, a2, ao, n, cap, l, rfl, R, g, hvl, hn⟩ | ⟨a1, _⟩
  ·subst a2
   have hv' : val B32 l = hv 10 (cutS (bs t)).2:=hvl
   refine ⟨_,ao,n,cap,l,rfl,R,g,?_,?_,hn,hb⟩
   ·unfold txZ;rw [hv'];rfl
   ·refine mg_is R.dg (goodB_tr g) ?_
    unfold txZ;rw [show ∀ (b : Bool) (v : Nat),(sgn b v).natAbs = v from fun b v=>by cases b <;> simp [sgn]];exact hv'
  ·exact absurd p2 (by unfold Big at a1;show ¬ hv 10 (cutS (bs t)).2 < B32 ^ 40;exact Nat.not_lt.2 a1)
def NdVal (d : Nd) (ka : Option Addr) (kc : Nat) : Value:=.agg #[.int .i64 d.kind,.int .i64 d.num,.string d.text,.slice ka d.kids.length kc]
def sizeN (d : Nd) : Int :=
 if d.kind = 1 \/ d.kind = 2 \/ d.kind = 4 \/ d.kind = 6 \/ d.kind = 10 \/ d.kind = 11 then (0 : Int)
 else if d.kind = 3 then (if fixB (txZ d.text) = true then 0 else 2 + (((mg (txZ d.text).natAbs).length : Nat) : Int))
 else if d.kind = 5 then 1 + (((ltrs d.text).length : Nat) : Int)
 else if d.kind = 7 \/ d.kind = 8 then 1 + ((d.kids.length : Nat) : Int)
 else if d.kind = 9 then 1 + ((d.text.size : Nat) : Int) else (-1 : Int)
theorem slice_form {w : World} {base : Nat} {e : TypeId} {k : Nat} {v : Value} {n : Nat} {xs : List Value} (h : w.ownsRow base e k v n xs) : ∃ a c,v = .slice a n c /\ n <= c /\ c <= 9223372036854775807:=by
 rcases h.2 with ⟨e1,e2⟩ | ⟨g,cap,cur,e1,_,_,h4,h5,_⟩
 ·subst e2;exact ⟨none,0,e1,Nat.le_refl _,by omega⟩
 ·unfold maxLen at h5;exact ⟨_,_,e1,h4,h5⟩
set_option maxHeartbeats 4000000 in
theorem size_any (d : Nd) (ka : Option Addr) (kc : Nat) (w : World) (hkd : I64 d.kind) (htx : d.text.size <= 5000) (hkk : d.kids.length <= kc) (hkc : kc <= 9223372036854775807) (hks : d.kids.length <= 1000000) (hp : d.kind = 3 -> printedB d.text = true) :
  Calls Tryz.prog 91 #[NdVal d ka kc] w fun e w'=>e = .returned (.int .i64 (sizeN d)) /\ Below w.heap.size w w':=by
 have HB:=hid (Ba w (.cells #[.int .i64 d.kind,.int .i64 d.num,.string d.text,.slice ka d.kids.length kc] 54))
 have hx:=blk_new w #[.int .i64 d.kind,.int .i64 d.num,.string d.text,.slice ka d.kids.length kc] 54
 have HX:=hid hx
 have HSZ : Hid (sizeN d = if d.kind = 1 \/ d.kind = 2 \/ d.kind = 4 \/ d.kind = 6 \/ d.kind = 10 \/ d.kind = 11 then (0 : Int)
  else if d.kind = 3 then (if fixB (txZ d.text) = true then 0 else 2 + (((mg (txZ d.text).natAbs).length : Nat) : Int))
  else if d.kind = 5 then 1 + (((ltrs d.text).length : Nat) : Int)
  else if d.kind = 7 \/ d.kind = 8 then 1 + ((d.kids.length : Nat) : Int)
  else if d.kind = 9 then 1 + ((d.text.size : Nat) : Int) else (-1 : Int)):=rfl
 have HP:=hid hp
 unfold NdVal
 obtain ⟨dk,dn,dt,dl⟩:=d
 simp only at HB HX HSZ HP htx hkk hks hkd hx ⊢
 have c0 : (w.alloc (.cells #[.int .i64 dk,.int .i64 dn,.string dt,.slice ka dl.length kc] 54)).cell? ⟨w.heap.size,0,none⟩ = some (.int .i64 dk):=blk_cell hx 0
 have c2 : (w.alloc (.cells #[.int .i64 dk,.int .i64 dn,.string dt,.slice ka dl.length kc] 54)).cell? ⟨w.heap.size,2,none⟩ = some (.string dt):=blk_cell hx 2
 have c3 : (w.alloc (.cells #[.int .i64 dk,.int .i64 dn,.string dt,.slice ka dl.length kc] 54)).cell? ⟨w.heap.size,3,none⟩ = some (.slice ka dl.length kc):=blk_cell hx 3
 obtain ⟨kn,hkn⟩ : ∃ n,n = dl.length:=⟨_,rfl⟩
 rw [<- hkn] at HB HX HSZ c0 c2 c3 hkk hks ⊢
 clear hx hp hkn
 by_cases k1 : dk = 1
 ·subst k1
  have he : Hid (sizeN ⟨1,dn,dt,dl⟩ = 0):=HSZ.out.trans (if_pos (by omega))
  go_enter Tryz.func91,Tryz.ntmps91
  go_wp2_with fail
  go_ret
  rw [he.out]
  exact ⟨rfl,HB.out⟩
 by_cases k2 : dk = 2
 ·subst k2
  have he : Hid (sizeN ⟨2,dn,dt,dl⟩ = 0):=HSZ.out.trans (if_pos (by omega))
  go_enter Tryz.func91,Tryz.ntmps91
  go_wp2_with fail
  go_ret
  rw [he.out]
  exact ⟨rfl,HB.out⟩
 by_cases k4 : dk = 4
 ·subst k4
  have he : Hid (sizeN ⟨4,dn,dt,dl⟩ = 0):=HSZ.out.trans (if_pos (by omega))
  go_enter Tryz.func91,Tryz.ntmps91
  go_wp2_with fail
  go_ret
  rw [he.out]
  exact ⟨rfl,HB.out⟩
 by_cases k6 : dk = 6
 ·subst k6
  have he : Hid (sizeN ⟨6,dn,dt,dl⟩ = 0):=HSZ.out.trans (if_pos (by omega))
  go_enter Tryz.func91,Tryz.ntmps91
  go_wp2_with fail
  go_ret
  rw [he.out]
  exact ⟨rfl,HB.out⟩
 by_cases k10 : dk = 10
 ·subst k10
  have he : Hid (sizeN ⟨10,dn,dt,dl⟩ = 0):=HSZ.out.trans (if_pos (by omega))
  go_enter Tryz.func91,Tryz.ntmps91
  go_wp2_with fail
  go_ret
  rw [he.out]
  exact ⟨rfl,HB.out⟩
 by_cases k11 : dk = 11
 ·subst k11
  have he : Hid (sizeN ⟨11,dn,dt,dl⟩ = 0):=HSZ.out.trans (if_pos (by omega))
  go_enter Tryz.func91,Tryz.ntmps91
  go_wp2_with fail
  go_ret
  rw [he.out]
  exact ⟨rfl,HB.out⟩
 rw [if_neg (by omega)] at HSZ
 by_cases k3 : dk = 3
 ·subst k3
  rw [if_pos rfl] at HSZ
  have CP:=hid (txt_parse dt htx (HP.out rfl) (w.alloc (.cells #[.int .i64 3,.int .i64 dn,.string dt,.slice ka kn kc] 54)))
  go_enter Tryz.func91,Tryz.ntmps91
  go_wp2_with (go_at_call 80;(with_reducible refine CP.out.mono ?_);rintro e W1 ⟨neg,ao,n,cap,l,rfl,R,g,hz,hl,hn,b1⟩;have HB1:=hid (Bt HB.out b1);have HB2:=hid (Ba W1 (.cells #[.bool neg,.slice ao n cap] 104));have hxi:=blk_new W1 #[.bool neg,.slice ao n cap] 104;have HXI:=hid hxi;have i0 : (W1.alloc (.cells #[.bool neg,.slice ao n cap] 104)).cell? ⟨W1.heap.size,0,none⟩ = some (.bool neg):=blk_cell hxi 0;have i1 : (W1.alloc (.cells #[.bool neg,.slice ao n cap] 104)).cell? ⟨W1.heap.size,1,none⟩ = some (.slice ao n cap):=blk_cell hxi 1;have CF:=hid (fixed_any neg ao n cap l (W1.alloc (.cells #[.bool neg,.slice ao n cap] 104)) (R.below HB2.out) g);rw [hz] at CF;unfold FixPost at CF;have hnl:=R.len;rw [hl] at hnl;have HNL:=hid hnl;have hnc:=R.fits;have hnm:=R.most;clear R g hz hl b1 hxi hnl)
  have HBX : Hid (∀ W2,Below (W1.alloc (.cells #[.bool neg,.slice ao n cap] 104)).heap.size (W1.alloc (.cells #[.bool neg,.slice ao n cap] 104)) W2 -> W2.cell? ⟨W1.heap.size,1,none⟩ = some (.slice ao n cap)):=fun W2 b=>blk_cell ((b.block W1.heap.size (by rw [size_alloc];omega)).trans HXI.out) 1
  unfold maxLen at hnm
  have HW : Hid (Below w.heap.size w (W1.alloc (.cells #[.bool neg,.slice ao n cap] 104))):=Bt HB1.out HB2.out
  obtain ⟨fb,hfb⟩ : ∃ b,b = fixB (txZ dt):=⟨_,rfl⟩
  rw [<- hfb] at CF HSZ
  clear hfb
  cases fb
  ·rw [if_neg (by simp)] at HSZ
   go_wp2_with (go_at_call 99;(with_reducible refine CF.out.mono ?_);rintro e W2 ⟨v,rfl,_,b2⟩;have d1:=HBX.out W2 b2;have HB3:=hid (Bt HW.out b2);clear b2)
   go_ret
   rw [HSZ.out,HNL.out]
   exact ⟨rfl,HB3.out⟩
  ·rw [if_pos rfl] at HSZ
   go_wp2_with (go_at_call 99;(with_reducible refine CF.out.mono ?_);rintro e W2 ⟨v,rfl,_,b2⟩;have HB3:=hid (Bt HW.out b2);clear b2)
   go_ret
   rw [HSZ.out]
   exact ⟨rfl,HB3.out⟩
 rw [if_neg k3] at HSZ
 by_cases k5 : dk = 5
 ·subst k5
  rw [if_pos rfl] at HSZ
  have CL:=hid (letters_any dt (by omega) (w.alloc (.cells #[.int .i64 5,.int .i64 dn,.string dt,.slice ka kn kc] 54)))
  have hll:=ltrs_len dt
  obtain ⟨n,hn⟩ : ∃ n,n = (ltrs dt).length:=⟨_,rfl⟩
  rw [<- hn] at CL HSZ hll
  clear hn
  go_enter Tryz.func91,Tryz.ntmps91
  go_wp2_with (go_at_call 145;(with_reducible refine CL.out.mono ?_);rintro e W1 ⟨v,rfl,hv,b1⟩;obtain ⟨av,cv,rfl,hvf,hvm⟩:=slice_form hv;have HB1:=hid (Bt HB.out b1);clear hv b1)
  go_ret
  rw [HSZ.out]
  exact ⟨rfl,HB1.out⟩
 rw [if_neg k5] at HSZ
 by_cases k7 : dk = 7
 ·subst k7
  rw [if_pos (by omega)] at HSZ
  go_enter Tryz.func91,Tryz.ntmps91
  go_wp2_with fail
  go_ret
  rw [HSZ.out]
  exact ⟨rfl,HB.out⟩
 by_cases k8 : dk = 8
 ·subst k8
  rw [if_pos (by omega)] at HSZ
  go_enter Tryz.func91,Tryz.ntmps91
  go_wp2_with fail
  go_ret
  rw [HSZ.out]
  exact ⟨rfl,HB.out⟩
 rw [if_neg (by omega)] at HSZ
 by_cases k9 : dk = 9
 ·subst k9
  rw [if_pos rfl] at HSZ
  go_enter Tryz.func91,Tryz.ntmps91
  go_wp2_with fail
  go_ret
  rw [HSZ.out]
  exact ⟨rfl,HB.out⟩
 rw [if_neg k9] at HSZ
 have e1 : (dk == 1) = false:=by simpa using k1
 have e2 : (dk == 2) = false:=by simpa using k2
 have e3 : (dk == 3) = false:=by simpa using k3
 have e4 : (dk == 4) = false:=by simpa using k4
 have e5 : (dk == 5) = false:=by simpa using k5
 have e6 : (dk == 6) = false:=by simpa using k6
 have e7 : (dk == 7) = false:=by simpa using k7
 have e8 : (dk == 8) = false:=by simpa using k8
 have e9 : (dk == 9) = false:=by simpa using k9
 have e10 : (dk == 10) = false:=by simpa using k10
 have e11 : (dk == 11) = false:=by simpa using k11
 clear k1 k2 k3 k4 k5 k6 k7 k8 k9 k10 k11
 go_enter Tryz.func91,Tryz.ntmps91
 go_wp2_with fail
 go_ret
 rw [HSZ.out]
 exact ⟨rfl,HB.out⟩
end Go.Proofs.YticimejfjjmikaaGreatDoor
