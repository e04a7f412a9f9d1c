import Derived.Test.YticimejfjjmikaaGreatDoorW40
import Derived.Test.YticimejfjjmikaaGreatDoorSG2
import Derived.Test.YticimejfjjmikaaGreatDoorV5
import Derived.Deep.AppendLies
import Derived.Test.YticimejfjjmikaaGreatDoorW36
set_option linter.unusedVariables false
set_option linter.unusedSimpArgs false
namespace Go.Proofs.YticimejfjjmikaaGreatDoor
open Go.RowKit
def hpO (os : List Ob) : Hp:=fun x=>(zr os x).map (fun k=>((os.getD k default).kind,(os.getD k default).f))
theorem qq {os : List Ob} {x : Int} {k : Nat} (h : zr os x = some k) : hpO os x = some ((os.getD k default).kind,(os.getD k default).f):=by unfold hpO;rw [h];rfl
theorem zcc {os : List Ob} {x : Int} (h : zr os x = none) : hpO os x = none:=by unfold hpO;rw [h];rfl
theorem zlf {os : List Ob} {x kd : Int} {f : List Int} (h : hpO os x = some (kd,f)) : ∃ k,zr os x = some k /\ (os.getD k default).kind = kd /\ (os.getD k default).f = f:=by
 unfold hpO at h
 cases e : zr os x with
 | none=>rw [e] at h;cases h
 | some k =>
  rw [e] at h
  injection h with h
  injection h with h1 h2
  exact ⟨k,rfl,h1,h2⟩
section
variable {os : List Ob}
def zen (os : List Ob) (i k : Nat) : Bool:=decide ((os.getD i default).kind = 5) && (decide ((os.getD k default).kind = 5) && (decide ((os.getD i default).f = (os.getD k default).f) && bigB (os.getD i default).f))
def zbs (os : List Ob) (x y : Int) : Bool:=match zr os x,zr os y with | some i,some k=>zen os i k | _,_=>false
def eqvB (os : List Ob) (x y : Int) : Bool:=decide (x = y) || zbs os x y
theorem zpk (x y : Int) : eqvB os x y = true ↔ Eqv (hpO os) x y:=by
 unfold eqvB zbs Eqv
 rw [Bool.or_eq_true,decide_eq_true_eq]
 refine or_congr Iff.rfl ?_
 constructor
 ·intro h
  cases e1 : zr os x with
  | none=>rw [e1] at h;simp at h
  | some i =>
   cases e2 : zr os y with
   | none=>rw [e1,e2] at h;simp at h
   | some k =>
    rw [e1,e2] at h
    simp only [zen,Bool.and_eq_true,decide_eq_true_eq] at h
    obtain ⟨h1,h2,h3,h4⟩:=h
    exact ⟨_,by rw [qq e1,h1],by rw [qq e2,h2,h3],h4⟩
 ·rintro ⟨f, h1, h2, h3⟩
  obtain ⟨i,a1,a2,a3⟩:=zlf h1
  obtain ⟨k,b1,b2,b3⟩:=zlf h2
  rw [a1,b1]
  simp only [zen,Bool.and_eq_true,decide_eq_true_eq]
  exact ⟨a2,b2,a3.trans b3.symm,by rw [a3];exact h3⟩
end
set_option maxRecDepth 100000
structure Lens (os : List Ob) (l : List Bool) (ln : List Int) : Prop where
 len : ln.length = zc os
 ll : l.length = os.length
 yes : ∀ k,k < os.length -> ln.getD (atO os k) 0 = if l.getD k false then ((1 + (os.getD k default).f.length : Nat) : Int) else 0
 no : ∀ q,(∀ k,k < os.length -> q ≠ atO os k) -> ln.getD q 0 = 0
section
variable {os : List Ob} {l : List Bool} {ln : List Int}
theorem Lens.start (os : List Ob) : Lens os (List.replicate os.length false) (List.replicate (zc os) 0):=by
 have h0 : ∀ i,(List.replicate os.length false).getD i false = false:=fun i=>by
  rw [List.getD_eq_getElem?_getD,List.getElem?_replicate];split <;> rfl
 have h1 : ∀ i,(List.replicate (zc os) (0 : Int)).getD i 0 = 0:=fun i=>by
  rw [List.getD_eq_getElem?_getD,List.getElem?_replicate];split <;> rfl
 exact ⟨by simp,by simp,fun k hk=>by rw [h1,h0];rfl,fun q _=>h1 q⟩
theorem Lens.set (h : Lens os l ln) {k : Nat} (hk : k < os.length) : Lens os (l.set k true) (ln.set (atO os k) ((1 + (os.getD k default).f.length : Nat) : Int)):=by
 have hlt:=kj hk
 have hlen:=h.len
 refine ⟨by rw [List.length_set];exact hlen,by rw [List.length_set];exact h.ll,fun j hj=>?_,fun q hq=>?_⟩
 ·rw [xd (by omega), zam (by rw [h.ll]; exact hk)]
  by_cases e : k = j
  ·subst e;simp
  ·rw [if_neg (fun e' => e (zcc1 hk hj e')), if_neg e]
   exact h.yes j hj
 ·rw [xd (by omega), if_neg (fun e => hq k hk e.symm)]
  exact h.no q hq
theorem Lens.z (h : Lens os l ln) (q : Nat) : 0 <= ln.getD q 0 /\ ln.getD q 0 <= zc os:=by
 by_cases e : ∃ k,k < os.length /\ q = atO os k
 ·obtain ⟨k, hk, rfl⟩ := e
  have:=kj hk
  rw [h.yes k hk]
  split <;> omega
 ·rw [h.no q (fun k hk e' => e ⟨k, hk, e'⟩)]
  omega
def kg (os : List Ob) (s : List Bool × List Nat) (z : Int) : List Bool × List Nat :=
 match zr os z with
 | none=>s
 | some k=>if s.1.getD k false then s else (s.1.set k true,s.2 ++ [k])
def flds (os : List Ob) (sk : List Nat) : List Int:=sk.flatMap (fun k=>(os.getD k default).f)
theorem zpl (os : List Ob) (sk : List Nat) (k : Nat) : flds os (sk ++ [k]) = flds os sk ++ (os.getD k default).f:=by
 unfold flds;rw [List.flatMap_append];simp
structure RI (os : List Ob) (rs rem : List Int) (l : List Bool) (sk : List Nat) : Prop where
 mks : Mk os rs l (rem ++ flds os sk)
 cnt : sk.length + cntB l <= os.length
 sks : ∀ k∈sk,k < os.length /\ l.getD k false = true
theorem RI.start (os : List Ob) (rs : List Int) : RI os rs rs (List.replicate os.length false) []:=by
 refine ⟨by have:=Mk.start os rs;simpa [flds] using this,?_,fun k hk=>by cases hk⟩
 unfold cntB
 simp
theorem RI.reach {rs rem : List Int} {sk : List Nat} {z : Int} (h : RI os rs (z :: rem) l sk) :
  RI os rs rem (kg os (l,sk) z).1 (kg os (l,sk) z).2 /\ 2 * cntB (kg os (l,sk) z).1 + (kg os (l,sk) z).2.length <= 2 * cntB l + sk.length:=by
 have h1 : ∀ y∈z :: rem ++ flds os sk,y = z \/ y∈rem ++ flds os sk:=fun y hy=>by
  rw [List.cons_append] at hy
  exact List.mem_cons.1 hy
 cases hf : zr os z with
 | none =>
  have e : kg os (l,sk) z = (l,sk):=by unfold kg;rw [hf]
  rw [e]
  refine ⟨⟨h.mks.drop h1 (fun y hy=>by rw [List.cons_append];exact List.mem_cons_of_mem _ hy) (fun i hi=>by rw [hf] at hi;cases hi),h.cnt,h.sks⟩,Nat.le_refl _⟩
 | some k =>
  have hk:=(yc hf).1
  cases hb : l.getD k false
  ·have e : kg os (l, sk) z = (l.set k true, sk ++ [k]) := by unfold kg; rw [hf]; simp only [hb]; rfl
   rw [e]
   have hc:=zvm (l:=l) (i:=k) (by rw [h.mks.len];exact hk) hb
   have hcn:=h.cnt
   have hset : ∀ j,l.getD j false = true -> (l.set k true).getD j false = true:=fun j hj=>by
    rw [zam (by rw [h.mks.len];exact hk)]
    split
    ·rfl
    ·exact hj
   refine ⟨⟨?_,by rw [List.length_append];simp only [List.length_cons,List.length_nil];omega,fun j hj=>?_⟩,by simp only [List.length_append,List.length_cons,List.length_nil];omega⟩
   ·rw [zpl, <- List.append_assoc]
    refine h.mks.mark (z:=z) (by simp) hf (fun y hy=>?_) (fun y hy=>?_) (fun y hy j hj=>.inr (List.mem_append_right _ hy))
    ·rcases h1 y hy with e | e
     ·exact .inl e
     ·exact .inr (List.mem_append_left _ e)
    ·rcases List.mem_append.1 hy with e | e
     ·exact .inl (by rw [List.cons_append];exact List.mem_cons_of_mem _ e)
     ·exact .inr e
   ·rcases List.mem_append.1 hj with e | e
    ·exact ⟨(h.sks j e).1,hset j (h.sks j e).2⟩
    ·rw [List.mem_singleton.1 e]
     exact ⟨hk,by rw [zam (by rw [h.mks.len];exact hk),if_pos rfl]⟩
  ·have e : kg os (l, sk) z = (l, sk) := by unfold kg; rw [hf]; simp only [hb]; rfl
   rw [e]
   refine ⟨⟨h.mks.drop h1 (fun y hy=>by rw [List.cons_append];exact List.mem_cons_of_mem _ hy) (fun i hi=>by rw [hf] at hi;cases hi;exact hb),h.cnt,h.sks⟩,Nat.le_refl _⟩
theorem znv {sk : List Nat} {z : Int} {k : Nat} (h : l.getD k false = true) (hl : l.length = os.length) : (kg os (l,sk) z).1.getD k false = true:=by
 unfold kg
 split
 ·exact h
 ·rename_i i hi
  split
  ·exact h
  ·show (l.set i true).getD k false = true
   rw [zam (by rw [hl];exact (yc hi).1)]
   split
   ·rfl
   ·exact h
theorem Mk.same {rs s s' : List Int} (h : Mk os rs l s) (h1 : ∀ y,y∈s ↔ y∈s') : Mk os rs l s' :=
 ⟨h.len,h.sd,fun z hz=>h.ss z ((h1 z).2 hz),fun r hr i hi=>(h.rt r hr i hi).imp id (h1 r).1,fun i hb z hz j hj=>(h.cl i hb z hz j hj).imp id (h1 z).1⟩
theorem RI.pop {rs : List Int} {sk : List Nat} {k : Nat} (h : RI os rs [] l (sk ++ [k])) : RI os rs (os.getD k default).f l sk /\ k < os.length /\ l.getD k false = true:=by
 have hk:=h.sks k (List.mem_append_right _ List.mem_cons_self)
 have hc:=h.cnt
 rw [List.length_append] at hc
 refine ⟨⟨h.mks.same (fun y=>?_),by omega,fun j hj=>h.sks j (List.mem_append_left _ hj)⟩,hk⟩
 rw [zpl,List.nil_append,List.mem_append,List.mem_append]
 exact Or.comm
theorem RI.done {rs : List Int} (h : RI os rs [] l []) : l = lvL os rs:=h.mks.done (fun z hz=>by simp [flds] at hz)
end
def iz (l : List Int) : List Value:=l.map (Value.int .i64)
theorem xj (l : List Int) : (iz l).length = l.length:=by simp [iz]
theorem zfw (l r : List Int) : iz (l ++ r) = iz l ++ iz r:=by simp [iz]
theorem zao : (Tryz.prog.info? 3).map (fun i=>(i.zero,i.size,i.bytes)) = some (some (.int .i64 0),1,8):=by kernel_rfl
theorem appi {P : Program} {w : World} {ops : Array Oper} {rest : List Oper} {o : Oper} {a : Act} {Q : Exit -> Act -> World -> Prop} (hgd : o.guard = none) (s x : Operand) (t : TypeId) (ho : o.op = .call { callee:=.builtin .append,args:=#[s,x],argTypes:=#[t,t] })
  (base : Nat) (e : TypeId) (ht : P.underlying t = some (.slice e)) (hi : (P.info? e).map (fun i=>(i.zero,i.size,i.bytes)) = some (some (.int .i64 0),1,8))
  (v : Value) (n : Nat) (l : List Int) (hs : a.eval s = v) (hown : w.ownsRow base e 1 v n (iz l))
  (ad : Addr) (c : Nat) (d : Int) (hx : a.eval x = .slice (some ad) 1 c) (hd : w.cell? ad = some (.int .i64 d)) (hsm : n <= 10000000) (hbase : base <= w.heap.size)
  (h : ∀ g cap w',w'.ownsRow base e 1 (.slice (some ⟨g,0,none⟩) (n + 1) cap) (n + 1) (iz (l ++ [d])) -> w.grownBy w' v.ownBlock -> (v.ownBlock = some g \/ g = w.heap.size) -> g < w'.heap.size -> wpList P ops Q rest (a.put o.dst (.slice (some ⟨g,0,none⟩) (n + 1) cap)) w') :
  wpList P ops Q (o :: rest) a w:=by
 obtain ⟨i0,hi0,hz0,hz1,hz2⟩ : ∃ i0,P.info? e = some i0 /\ i0.zero = some (.int .i64 0) /\ i0.size = 1 /\ i0.bytes = 8:=by
  cases h : P.info? e with
  | none=>rw [h] at hi;cases hi
  | some i=>rw [h] at hi;simp at hi;exact ⟨i,rfl,hi.1,hi.2.1,hi.2.2⟩
 refine wpList_append_lies w hgd s x t ho base e i0 (.int .i64 0) 1 8 ht hi0 hz0 hz1 hz2 rfl (by decide) v n (iz l) hs hown ad 1 c [.int .i64 d] hx rfl ?_ ?_ (by decide) (by unfold maxLen;omega) (by omega) hbase w.heap.size rfl ?_
 ·intro j u hj
  match j,hj with
  | 0,hj=>simp at hj;subst hj;simpa [Addr.add] using hd
 ·intro u hu;simp at hu;subst hu;rfl
 ·intro g cap w' h1 h2 h3 h4
  refine h g cap w' ?_ h2 h3 h4
  rw [zfw];exact h1
set_option maxHeartbeats 4000000
def isR (k x : Int) : Bool:=decide ((ofR x).1 = k)
def hasR (k x : Int) : Int:=if (ofR x).1 = k then (ofR x).2.1 else 0
def typR (x : Int) : Int:=if (ofR x).1 = 8 then (ofR x).2.2 else 0
theorem zlg {k n t : Int} (h : zm k n t = false) : Ending.returned (.tuple #[.int .u64 0,.bool false]) = Ending.returned (.tuple #[.int .u64 (zj k n t),.bool (zm k n t)]):=by
 unfold zj;rw [h];rfl
theorem zfx {k n t x : Int} (h : zm k n t = true) (hx : x = wrdB k n t) : Ending.returned (.tuple #[.int .u64 x,.bool true]) = Ending.returned (.tuple #[.int .u64 (zj k n t),.bool (zm k n t)]):=by
 unfold zj;rw [h,hx];rfl
theorem znw {x k : Int} (hk : k ≠ 0) (h : (jw x).1 ≠ k) : (ofR x).1 ≠ k:=by
 unfold ofR;split
 ·exact h
 ·exact fun e=>hk e.symm
theorem zvq {x k : Int} (hk : k ≠ 0) (h : zm (jw x).1 (jw x).2.1 (jw x).2.2 = false) : (ofR x).1 ≠ k:=by
 unfold ofR;rw [h];exact fun e=>hk e.symm
theorem znx {x k n t : Int} (h : jw x = (k,n,t)) (hr : zm k n t = true) : ofR x = (k,n,t):=by
 unfold ofR;rw [h];simp only [hr,if_true]
theorem zny {x k : Int} (h : (ofR x).1 ≠ k) : Ending.returned (.tuple #[.int .i64 0,.bool false]) = Ending.returned (.tuple #[.int .i64 (hasR k x),.bool (isR k x)]):=by
 unfold hasR isR;rw [if_neg h,decide_eq_false h]
theorem zpm {x k n t : Int} (h : ofR x = (k,n,t)) : Ending.returned (.tuple #[.int .i64 n,.bool true]) = Ending.returned (.tuple #[.int .i64 (hasR k x),.bool (isR k x)]):=by
 unfold hasR isR;rw [h];simp
theorem zpn {x : Int} (h : (ofR x).1 ≠ 8) : Ending.returned (.tuple #[.int .i64 0,.int .i64 0,.bool false]) = Ending.returned (.tuple #[.int .i64 (typR x),.int .i64 (hasR 8 x),.bool (isR 8 x)]):=by
 unfold hasR isR typR;rw [if_neg h,if_neg h,decide_eq_false h]
theorem zvr {x n t : Int} (h : ofR x = (8,n,t)) : Ending.returned (.tuple #[.int .i64 t,.int .i64 n,.bool true]) = Ending.returned (.tuple #[.int .i64 (typR x),.int .i64 (hasR 8 x),.bool (isR 8 x)]):=by
 unfold hasR isR typR;rw [h];simp
theorem znz (n : Int) (w : World) : Calls Tryz.prog 194 #[.int .i64 n] w fun e w'=>e = .returned (.bool (decide (0 <= n) && decide (n <= 1073741824))) /\ w' = w:=by
 by_cases h1 : 0 <= n <;> by_cases h2 : n <= 1073741824 <;>
 ·go_enter Tryz.func194, Tryz.ntmps194
  go_wp2
  go_ret
  exact ⟨by simp [h1,h2],rfl⟩
theorem ziy (n : Int) (h1 : 0 <= n) (h2 : n <= 1114111) (w : World) : Calls Tryz.prog 192 #[.int .i32 n] w fun e w'=>e = .returned (.bool (decide (n < 55296) || decide (57343 < n))) /\ w' = w:=by
 by_cases h3 : n < 55296 <;> by_cases h4 : 57343 < n <;>
 ·go_enter Tryz.func192, Tryz.ntmps192
  go_wp2
  go_ret
  exact ⟨by simp [h3,h4],rfl⟩
theorem zlh (n : Int) (w : World) : Calls Tryz.prog 163 #[.int .i64 n] w fun e w'=>e = .returned (.bool (ltrB n)) /\ w' = w:=by
 unfold ltrB
 by_cases h1 : 0 <= n <;> by_cases h2 : n <= 1114111
 ·have HV := hid (fun w => ziy n h1 h2 w)
  go_enter Tryz.func163,Tryz.ntmps163
  go_wp2_with (go_at_call 192;refine (HV.out _).mono ?_;rintro e w9 ⟨rfl,hw9⟩;rw [hw9])
  all_goals go_ret
  all_goals exact ⟨by simp [h1,h2],rfl⟩
 all_goals
 ·go_enter Tryz.func163, Tryz.ntmps163
  go_wp2
  go_ret
  refine ⟨?_,rfl⟩
  first
  | simp [h1];omega
  | simp [h2];omega
theorem zdq1 {n c : Int} (h0 : 0 <= n) (h1 : n <= 1073741824) (hc : 0 <= c /\ c < 256) : bits .or .u64 (n * 256) c = n * 256 + c:=zde1 (by unfold U64;omega) (by omega) hc
theorem zhn (n c : Int) (h0 : 0 <= n) (h1 : n <= 1073741824) (hc : 0 <= c /\ c < 256) (w : World) : Calls Tryz.prog 199 #[.int .u64 c,.int .i64 n] w fun e w'=>e = .returned (.int .u64 (n * 256 + c)) /\ w' = w:=by
 have e1:=zdq1 h0 h1 hc
 go_enter Tryz.func199,Tryz.ntmps199
 go_wp2
 go_ret
 exact ⟨rfl,rfl⟩
theorem zoa (n k c : Int) (hk : k = 5 \/ k = 6 \/ k = 7) (hc : c = (k + 2) * 8 + 2) (w : World) : Calls Tryz.prog 212 #[.int .u64 c,.int .i64 n] w fun e w'=>e = .returned (.tuple #[.int .u64 (zj k n 0),.bool (zm k n 0)]) /\ w' = w:=by
 have HC:=hid (fun w=>znz n w)
 have hcr : 0 <= c /\ c < 256:=by omega
 have hr : zm k n 0 = (decide (0 <= n) && decide (n <= 1073741824)):=by
  unfold zm;rcases hk with rfl | rfl | rfl <;> simp
 have HR:=hid hr
 clear hr
 have HCC:=hid hc
 have HKK:=hid hk
 clear hc hk
 by_cases h1 : 0 <= n <;> by_cases h2 : n <= 1073741824
 ·have HK := hid (fun w => zhn n c h1 h2 hcr w)
  go_enter Tryz.func212,Tryz.ntmps212
  go_wp2_with (first
   | (go_at_call 194;refine (HC.out _).mono ?_;rintro e w9 ⟨rfl,hw9⟩;rw [hw9];simp only [h1,h2,decide_true,Bool.and_true])
   | (go_at_call 199;refine (HK.out _).mono ?_;rintro e w9 ⟨rfl,hw9⟩;rw [hw9]))
  all_goals go_ret2
  all_goals exact ⟨zfx (by rw [HR.out];simp [h1,h2]) (by have hc:=HCC.out;have hk:=HKK.out;unfold wrdB;rw [if_neg (by omega),if_neg (by omega),if_neg (by omega),if_neg (by omega)];omega),rfl⟩
 all_goals
 ·have hf : (decide (0 <= n) && decide (n <= 1073741824)) = false := by simp; omega
  have HF:=hid hf
  clear hf
  go_enter Tryz.func212,Tryz.ntmps212
  go_wp2_with (go_at_call 194;refine (HC.out _).mono ?_;rintro e w9 ⟨rfl,hw9⟩;rw [hw9,HF.out])
  all_goals go_ret2
  all_goals exact ⟨zlg (by rw [HR.out,HF.out]),rfl⟩
theorem zpo (n : Int) (hn : Z64 n) (w : World) : Calls Tryz.prog 176 #[.int .i64 n] w fun e w'=>e = .returned (.tuple #[.int .u64 (zj 4 n 0),.bool (zm 4 n 0)]) /\ w' = w:=by
 have HC:=hid (fun w=>zlh n w)
 obtain ⟨b,hb⟩ : ∃ b,b = ltrB n:=⟨_,rfl⟩
 rw [<- hb] at HC
 have hr : zm 4 n 0 = b:=by
  unfold zm;rw [<- hb]
  cases b
  ·simp
  ·have := zco hb.symm
   simp;omega
 have HR:=hid hr
 cases b
 ·clear hr hb
  go_enter Tryz.func176,Tryz.ntmps176
  go_wp2_with (go_at_call 163;refine (HC.out _).mono ?_;rintro e w9 ⟨rfl,hw9⟩;rw [hw9])
  all_goals go_ret2
  all_goals exact ⟨zlg HR.out,rfl⟩
 ·have hl := zco hb.symm
  clear hr hb
  have HK:=hid (fun w=>zhn n 50 (by omega) (by omega) (by omega) w)
  go_enter Tryz.func176,Tryz.ntmps176
  go_wp2_with (first
  | (go_at_call 163;refine (HC.out _).mono ?_;rintro e w9 ⟨rfl,hw9⟩;rw [hw9])
  | (go_at_call 199;refine (HK.out _).mono ?_;rintro e w9 ⟨rfl,hw9⟩;rw [hw9]))
  all_goals go_ret2
  all_goals exact ⟨zfx HR.out (by simp [wrdB];omega),rfl⟩
theorem zzj (n : Int) (hn : Z64 n) (w : World) : Calls Tryz.prog 200 #[.int .i64 n] w fun e w'=>e = .returned (.tuple #[.int .u64 (zj 5 n 0),.bool (zm 5 n 0)]) /\ w' = w:=by
 have HC:=hid (fun w=>zoa n 5 58 (by omega) (by omega) w)
 go_enter Tryz.func200,Tryz.ntmps200
 go_wp2_with (go_at_call 212;refine (HC.out _).mono ?_;rintro e w9 ⟨rfl,hw9⟩;rw [hw9])
 all_goals go_ret2
 all_goals exact ⟨rfl,rfl⟩
theorem zvs (n : Int) (hn : Z64 n) (w : World) : Calls Tryz.prog 182 #[.int .i64 n] w fun e w'=>e = .returned (.tuple #[.int .u64 (zj 1 n 0),.bool (zm 1 n 0)]) /\ w' = w:=by
 unfold Z64 at hn
 by_cases h : -1152921504606846976 <= n /\ n < 1152921504606846976
 ·have hr : Hid (zm 1 n 0 = true) := by unfold Hid zm; simp [h.1, h.2]
  have w1 : IntKind.u64.wrap (IntKind.u64.wrap n * 8) = (n * 8) % 18446744073709551616:=by
   rw [IntKind.wrap_u64,IntKind.wrap_u64];omega
  have e0 : bits .or .u64 ((n * 8) % 18446744073709551616) 0 = (n * 8) % 18446744073709551616:=by
   have:=znp (x:=(n * 8) % 18446744073709551616) (b:=0) (by unfold U64;omega) (by omega) (by omega)
   rw [this];exact Int.add_zero _
  go_enter Tryz.func182,Tryz.ntmps182
  go_wp2
  all_goals go_ret2
  all_goals exact ⟨zfx hr.out (by first | rfl | (show bits .or .u64 (IntKind.u64.wrap (IntKind.u64.wrap n * 8)) 0 = (n * 8) % 18446744073709551616;rw [w1,e0]) | (show bits .or .u64 ((n * 8) % 18446744073709551616) 0 = (n * 8) % 18446744073709551616;rw [e0])),rfl⟩
 ·have hr : Hid (zm 1 n 0 = false) := by unfold Hid zm; simp; omega
  go_enter Tryz.func182,Tryz.ntmps182
  go_wp2
  all_goals go_ret2
  all_goals first
  | exact ⟨zlg hr.out,rfl⟩
  | (exfalso;omega)
theorem zvt (n : Int) (hn : Z64 n) (w : World) : Calls Tryz.prog 111 #[.int .i64 n] w fun e w'=>e = .returned (.tuple #[.int .u64 (zj 2 n 0),.bool (zm 2 n 0)]) /\ w' = w:=by
 unfold Z64 at hn
 by_cases h : 0 <= n /\ n <= 1099511627776
 ·have hr : Hid (zm 2 n 0 = true) := by unfold Hid zm; simp [h.1, h.2]
  have e0 : bits .or .u64 (n * 8) 1 = n * 8 + 1:=znp (by unfold U64;omega) (by omega) (by omega)
  obtain ⟨h1,h2⟩:=h
  go_enter Tryz.func111,Tryz.ntmps111
  go_wp2
  all_goals go_ret2
  all_goals first
  | exact ⟨zfx hr.out rfl,rfl⟩
  | (exfalso;omega)
 ·have hr : Hid (zm 2 n 0 = false) := by unfold Hid zm; simp; omega
  go_enter Tryz.func111,Tryz.ntmps111
  go_wp2
  all_goals go_ret2
  all_goals first
  | exact ⟨zlg hr.out,rfl⟩
  | (exfalso;omega)
theorem zzk (n t : Int) (hn : Z64 n) (ht : Z64 t) (w : World) : Calls Tryz.prog 116 #[.int .i64 t,.int .i64 n] w fun e w'=>e = .returned (.tuple #[.int .u64 (zj 8 n t),.bool (zm 8 n t)]) /\ w' = w:=by
 unfold Z64 at hn ht
 by_cases h : (1 <= t /\ t <= 255) /\ 0 <= n /\ n <= 1099511627776
 ·have hr : Hid (zm 8 n t = true) := by unfold Hid zm; simp [h.1.1, h.1.2, h.2.1, h.2.2]
  have e0 : bits .or .u64 (n * 2048) (t * 8) = n * 2048 + t * 8:=zzd (by unfold U64;omega) (by omega) (by omega)
  have e1 : bits .or .u64 (n * 2048 + t * 8) 7 = n * 2048 + t * 8 + 7:=znp (by unfold U64;omega) (by omega) (by omega)
  obtain ⟨⟨h1,h2⟩,h3,h4⟩:=h
  go_enter Tryz.func116,Tryz.ntmps116
  go_wp2
  all_goals go_ret2
  all_goals first
  | exact ⟨zfx hr.out rfl,rfl⟩
  | (exfalso;omega)
 ·have hr : Hid (zm 8 n t = false) := by unfold Hid zm; simp; omega
  go_enter Tryz.func116,Tryz.ntmps116
  go_wp2
  all_goals go_ret2
  all_goals first
  | exact ⟨zlg hr.out,rfl⟩
  | (exfalso;omega)
theorem zdr1 (x : Int) (hx : U64 x) (w : World) : Calls Tryz.prog 128 #[.int .u64 x] w fun e w'=>e = .returned (.tuple #[.int .i64 (hasR 1 x),.bool (isR 1 x)]) /\ w' = w:=by
 have e0:=and7 hx
 unfold U64 at hx
 by_cases h : x % 8 = 0
 ·have e1 : wrap64 x / 8 = sgnW x / 8 := by unfold wrap64 sgnW; split <;> omega
  have ho : Hid (ofR x = (1,wrap64 x / 8,0)):=by
   refine znx (by unfold jw;rw [if_pos h,e1]) ?_
   unfold zm;rw [e1];unfold sgnW
   simp;split <;> omega
  clear e1
  go_enter Tryz.func128,Tryz.ntmps128
  go_wp2
  all_goals go_ret2
  all_goals exact ⟨zpm ho.out,rfl⟩
 ·have ho : Hid ((ofR x).1 ≠ 1) := by
   refine znw (by decide) ?_
   unfold jw;rw [if_neg h]
   split
   ·exact (by decide : (2 : Int) ≠ 1)
   split
   ·split
    ·exact (by decide : (3 : Int) ≠ 1)
    split
    ·show x / 8 % 32 - 2 ≠ 1;omega
    ·exact (by decide : (0 : Int) ≠ 1)
   split
   ·exact (by decide : (8 : Int) ≠ 1)
   ·exact (by decide : (0 : Int) ≠ 1)
  go_enter Tryz.func128,Tryz.ntmps128
  go_wp2
  all_goals go_ret2
  all_goals exact ⟨zny ho.out,rfl⟩
theorem zpp (x : Int) (hx : U64 x) (w : World) : Calls Tryz.prog 106 #[.int .u64 x] w fun e w'=>e = .returned (.tuple #[.int .i64 (hasR 2 x),.bool (isR 2 x)]) /\ w' = w:=by
 have e0:=and7 hx
 unfold U64 at hx
 by_cases h : x % 8 = 1
 ·have hw : Hid (jw x = (2, x / 8, 0)) := by unfold Hid jw; rw [if_neg (by omega), if_pos h]
  by_cases h2 : x / 8 <= 1099511627776
  ·have ho : Hid (ofR x = (2, x / 8, 0)) := znx hw.out (by unfold zm; simp; omega)
   go_enter Tryz.func106,Tryz.ntmps106
   go_wp2
   all_goals go_ret2
   all_goals first
   | exact ⟨zpm ho.out,rfl⟩
   | (exfalso;omega)
  ·have ho : Hid ((ofR x).1 ≠ 2) := zvq (by decide) (by rw [hw.out]; unfold zm; simp; omega)
   go_enter Tryz.func106,Tryz.ntmps106
   go_wp2
   all_goals go_ret2
   all_goals first
   | exact ⟨zny ho.out,rfl⟩
   | (exfalso;omega)
 ·have ho : Hid ((ofR x).1 ≠ 2) := by
   refine znw (by decide) ?_
   unfold jw
   split
   ·exact (by decide : (1 : Int) ≠ 2)
   split
   ·split
    ·exact (by decide : (3 : Int) ≠ 2)
    split
    ·show x / 8 % 32 - 2 ≠ 2;omega
    ·exact (by decide : (0 : Int) ≠ 2)
   split
   ·exact (by decide : (8 : Int) ≠ 2)
   ·exact (by decide : (0 : Int) ≠ 2)
  go_enter Tryz.func106,Tryz.ntmps106
  go_wp2
  all_goals go_ret2
  all_goals exact ⟨zny ho.out,rfl⟩
theorem ko (x : Int) (hx : U64 x) (w : World) : Calls Tryz.prog 115 #[.int .u64 x] w fun e w'=>e = .returned (.tuple #[.int .i64 (typR x),.int .i64 (hasR 8 x),.bool (isR 8 x)]) /\ w' = w:=by
 have e0:=and7 hx
 have e1:=zdd1 (x:=x / 8) (by unfold U64 at hx ⊢;omega)
 unfold U64 at hx
 by_cases h : x % 8 = 7
 ·have hw : Hid (jw x = (8, x / 2048, x / 8 % 256)) := by unfold Hid jw; rw [if_neg (by omega), if_neg (by omega), if_neg (by omega), if_pos h]
  by_cases h2 : 1 <= x / 8 % 256 /\ x / 2048 <= 1099511627776
  ·have ho : Hid (ofR x = (8, x / 2048, x / 8 % 256)) := znx hw.out (by unfold zm; simp; omega)
   obtain ⟨h3,h4⟩:=h2
   go_enter Tryz.func115,Tryz.ntmps115
   go_wp2
   all_goals go_ret3
   all_goals first
   | exact ⟨zvr ho.out,rfl⟩
   | (exfalso;omega)
  ·have ho : Hid ((ofR x).1 ≠ 8) := zvq (by decide) (by rw [hw.out]; unfold zm; simp; omega)
   go_enter Tryz.func115,Tryz.ntmps115
   go_wp2
   all_goals go_ret3
   all_goals first
   | exact ⟨zpn ho.out,rfl⟩
   | (exfalso;omega)
 ·have ho : Hid ((ofR x).1 ≠ 8) := by
   refine znw (by decide) ?_
   unfold jw
   split
   ·exact (by decide : (1 : Int) ≠ 8)
   split
   ·exact (by decide : (2 : Int) ≠ 8)
   split
   ·split
    ·exact (by decide : (3 : Int) ≠ 8)
    split
    ·show x / 8 % 32 - 2 ≠ 8;omega
    ·exact (by decide : (0 : Int) ≠ 8)
   exact (by decide : (0 : Int) ≠ 8)
  go_enter Tryz.func115,Tryz.ntmps115
  go_wp2
  all_goals go_ret3
  all_goals exact ⟨zpn ho.out,rfl⟩
theorem zzl (b : Bool) (w : World) : Calls Tryz.prog 174 #[.bool b] w fun e w'=>e = .returned (.int .u64 (if b then 18 else 10)) /\ w' = w:=by
 cases b <;>
 ·go_enter Tryz.func174, Tryz.ntmps174
  go_wp2
  go_ret
  exact ⟨rfl,rfl⟩
end Go.Proofs.YticimejfjjmikaaGreatDoor
