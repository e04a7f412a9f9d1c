import Derived.Test.YticimejfjjmikaaGreatDoorW1
import Derived.BigQuiet
import Derived.Deep.QuietTactic
import Derived.Deep.AppendLies
import Derived.Laws.AppendOwnNone
import Derived.Lib.SliceRun
import Derived.Deep.RegionHeld3
set_option linter.unusedVariables false
set_option linter.unusedSimpArgs false
namespace Go.Proofs.YticimejfjjmikaaGreatDoor
open Go.RowKit
set_option maxHeartbeats 400000 in
theorem zts (neg : Bool) (ao : Option Addr) (n cap : Nat) (l : List Nat) (w : World) (R : Row .u32 B32 w ao n cap l) :
  Calls Tryz.prog 211 #[.bool neg,.slice ao n cap] w fun e w'=>∃ x l',e = .returned x /\ zyj w' x (neg && decide (l' ≠ [])) l' /\ Tr l' /\ val B32 l' = val B32 l /\ l'.length <= n /\ Below w.heap.size w w':=by
 go_enter Tryz.func211,Tryz.ntmps211
 go_wp2_with fail
 refine (zot ao n cap l _ (R.below (Ba _ _))).mono ?_
 rintro e w1 ⟨m,hm,rfl,rfl,ht,hv⟩
 have R2:=R.take hm m (Nat.le_refl _) (Nat.le_trans hm R.fits)
 have hmn:=R.most
 have hmc:=R.fits
 unfold maxLen at hmn
 have hl:=R.len
 have HR:=hid R2
 have HT:=hid ht
 have HV:=hid hv
 have HL:=hid hl
 clear R R2 ht hv hl
 by_cases h0 : m = 0
 ·subst h0
  go_wp2
  refine bodyPost_ret (v:=.agg #[.bool false,.slice none 0 0]) (by simp [results,Tryz.results211,go_sem]) rfl ⟨_,[],rfl,⟨none,0,0,by simp,Row.nil _ _ _ _⟩,Tr.nil,?_,by simp,Ba _ _⟩
  rw [<- HV.out];simp
 ·have e0 : ((m : Int) == 0) = false := by simp; omega
  go_wp2
  refine bodyPost_ret (v:=.agg #[.bool neg,.slice ao m m]) (by simp [results,Tryz.results211,go_sem]) rfl ⟨_,l.take m,rfl,⟨ao,m,m,?_,HR.out.below (Ba _ _)⟩,HT.out,HV.out,by rw [List.length_take];omega,Ba _ _⟩
  have hne : l.take m ≠ []:=by
   intro e
   have:=congrArg List.length e
   rw [List.length_take,HL.out] at this
   simp at this;omega
  simp [hne]
theorem zac {a b : Int} (h : a = b) : Ending.returned (.int .i64 a) = .returned (.int .i64 b):=by rw [h]
def cs (k : IntKind) (l : List Nat) : List Value:=l.map fun (x : Nat)=>Value.int k (x : Int)
theorem qz (k : IntKind) (l : List Nat) : (cs k l).length = l.length:=by simp [cs]
theorem zjy (k : IntKind) (l r : List Nat) : cs k (l ++ r) = cs k l ++ cs k r:=by simp [cs]
theorem zfu1 {k : IntKind} {l : List Nat} {j : Nat} {u : Value} (h : (cs k l)[j]? = some u) : j < l.length /\ u = .int k (l.getD j 0 : Nat):=by
 unfold cs at h
 rw [List.getElem?_map] at h
 by_cases hj : j < l.length
 ·rw [List.getElem?_eq_getElem hj] at h
  refine ⟨hj,?_⟩
  rw [List.getD_eq_getElem?_getD,List.getElem?_eq_getElem hj]
  simp at h
  exact h.symm
 ·rw [List.getElem?_eq_none (by omega)] at h;simp at h
theorem zfb {k : IntKind} {l : List Nat} {j : Nat} (hj : j < l.length) : (cs k l)[j]? = some (.int k (l.getD j 0 : Nat)):=by
 unfold cs
 rw [List.getElem?_map,List.getD_eq_getElem?_getD,List.getElem?_eq_getElem hj];rfl
theorem zfv1 (k : IntKind) (l : List Nat) : ∀ u∈cs k l,u.oneCell' = true:=by
 intro u hu
 unfold cs at hu
 obtain ⟨x,_,rfl⟩:=List.mem_map.1 hu
 rfl
theorem x5 {w : World} {base : Nat} {e : TypeId} {v : Value} {n : Nat} {k : IntKind} {l : List Nat} {B : Nat} (h : w.ownsRow base e 1 v n (cs k l)) (hd : Dg B l) :
  ∃ ao cap,v = .slice ao n cap /\ Own k e B base w ao n cap l:=by
 have hn : l.length = n:=by have:=h.1;rw [qz] at this;omega
 rcases h.2 with ⟨rfl,h0⟩ | ⟨g,cap,cur,rfl,hb,hg,hle,hm,hsz,htk⟩
 ·subst h0
  have : l = []:=List.length_eq_zero_iff.1 hn
  subst this
  exact ⟨none,0,rfl,Row.nil _ _ _ _,.inl rfl⟩
 ·have hwin : Win k e w g 0 n cur l := by
   refine ⟨hg,by omega,hn,fun i hi=>?_⟩
   have h1 : (cs k l)[i]? = some (.int k (l.getD i 0 : Nat)):=zfb (by omega)
   rw [<- htk,List.getElem?_take,if_pos (by omega)] at h1
   rw [Nat.zero_add,<- Array.getElem?_toList];exact h1
  exact ⟨some ⟨g,0,none⟩,cap,rfl,⟨hn,hle,hm,fun h=>(by cases h),hd,hwin.rd⟩,.inr ⟨g,cur,rfl,hb,hwin⟩⟩
theorem Own.nil (k : IntKind) (e : TypeId) (B base : Nat) (w : World) (ao : Option Addr) : Own k e B base w ao 0 0 []:=⟨Row.nil _ _ _ _,.inl rfl⟩
theorem Own.base {k : IntKind} {e : TypeId} {B base base' : Nat} {w : World} {ao : Option Addr} {n cap : Nat} {l : List Nat} (h : Own k e B base w ao n cap l) (hb : base' <= base) : Own k e B base' w ao n cap l :=
 ⟨h.row,h.own.imp id fun ⟨g,cur,h1,h2,h3⟩=>⟨g,cur,h1,Nat.le_trans hb h2,h3⟩⟩
theorem Win.below {k : IntKind} {e : TypeId} {w w' : World} {g o n : Nat} {cur : Array Value} {l : List Nat} (h : Win k e w g o n cur l) (hb : Below w.heap.size w w') : Win k e w' g o n cur l :=
 ⟨(hb.block g h.lt).trans h.blk,h.fits,h.len,h.at_⟩
theorem Win.on {k : IntKind} {e : TypeId} {w w' : World} {g o n B : Nat} {cur : Array Value} {l : List Nat} (h : Win k e w g o n cur l) (hb : Below B w w') (hg : g < B) : Win k e w' g o n cur l :=
 ⟨(hb.block g hg).trans h.blk,h.fits,h.len,h.at_⟩
theorem Win.take {k : IntKind} {e : TypeId} {w : World} {g o n m : Nat} {cur : Array Value} {l : List Nat} (h : Win k e w g o n cur l) (hm : m <= n) : Win k e w g o m cur (l.take m) :=
 ⟨h.blk,by have:=h.fits;omega,by rw [List.length_take,h.len,Nat.min_eq_left hm],fun i hi=>by rw [zcn hi];exact h.at_ i (by omega)⟩
theorem Own.setFar {k : IntKind} {e : TypeId} {B base : Nat} {w : World} {ao : Option Addr} {n cap : Nat} {l : List Nat} (h : Own k e B base w ao n cap l) {p : Addr} (hp : p.block < base) (v : Value) : Own k e B base (w.setCell p v) ao n cap l:=by
 rcases h.own with h0 | ⟨g,cur,h1,h2,h3⟩
 ·have hl : l = [] := List.length_eq_zero_iff.1 (by rw [h.row.len, h0])
  exact ⟨⟨h.row.len,h.row.fits,h.row.most,h.row.nil_,h.row.dg,.inl hl⟩,.inl h0⟩
 ·have hw : Win k e (w.setCell p v) g 0 n cur l := ⟨(Below.heap_setCell w p v g (by omega)).trans h3.blk, h3.fits, h3.len, h3.at_⟩
  subst h1
  exact ⟨⟨h.row.len,h.row.fits,h.row.most,h.row.nil_,h.row.dg,hw.rd⟩,.inr ⟨g,cur,rfl,h2,hw⟩⟩
theorem zay {w : World} {base : Nat} {e : TypeId} {v : Value} {n : Nat} {k : IntKind} {l : List Nat} (h : w.ownsRow base e 1 v n (cs k l)) (hn : 0 < n) :
  ∃ g cap cur,v = .slice (some ⟨g,0,none⟩) n cap /\ base <= g /\ n <= cap /\ cap <= maxLen /\ cur.size = cap /\ Win k e w g 0 n cur l:=by
 have hl : l.length = n:=by have:=h.1;rw [qz] at this;omega
 rcases h.2 with ⟨_,h0⟩ | ⟨g,cap,cur,rfl,hb,hg,hle,hm,hsz,htk⟩
 ·omega
 ·refine ⟨g, cap, cur, rfl, hb, hle, hm, by omega, hg, by omega, hl, fun i hi => ?_⟩
  have h1 : (cs k l)[i]? = some (.int k (l.getD i 0 : Nat)):=zfb (by omega)
  rw [<- htk,List.getElem?_take,if_pos (by omega)] at h1
  rw [Nat.zero_add,<- Array.getElem?_toList];exact h1
theorem zmw {w : World} {base : Nat} {e : TypeId} {n g cap : Nat} {k : IntKind} {l : List Nat} {cur : Array Value} (hb : base <= g) (h1 : n <= cap) (h2 : cap <= maxLen) (h3 : cur.size = cap) (hw : Win k e w g 0 n cur l) :
  w.ownsRow base e 1 (.slice (some ⟨g,0,none⟩) n cap) n (cs k l):=by
 refine ⟨by rw [qz,hw.len];omega,.inr ⟨g,cap,cur,rfl,hb,hw.blk,h1,h2,by omega,?_⟩⟩
 apply List.ext_getElem?
 intro i
 rw [List.getElem?_take]
 by_cases hi : i < n
 ·rw [if_pos (by omega), Array.getElem?_toList, zfb (by rw [hw.len]; exact hi)]
  have:=hw.at_ i hi
  rwa [Nat.zero_add] at this
 ·rw [if_neg (by omega),List.getElem?_eq_none (by rw [qz,hw.len];omega)]
theorem zcp {w w' : World} {base : Nat} {e : TypeId} {n g cap : Nat} {k : IntKind} {l : List Nat} {cur : Array Value} (hb : base <= g) (h1 : n <= cap) (h2 : cap <= maxLen) (h3 : cur.size = cap) (hO : Onto k e g 0 n w w' cur l) :
  w'.ownsRow base e 1 (.slice (some ⟨g,0,none⟩) n cap) n (cs k l):=by
 obtain ⟨c,hw,hc,_⟩:=hO.row
 exact zmw hb h1 h2 (by omega) hw
theorem zyq {w w' : World} {base : Nat} {e e' : TypeId} {v : Value} {n m g o : Nat} {k : IntKind} {xs : List Value} {l : List Nat} {cur : Array Value} (h : w.ownsRow base e 1 v n xs) (hg : g < base) (hO : Onto k e' g o m w w' cur l) : w'.ownsRow base e 1 v n xs:=by
 refine ⟨h.1,?_⟩
 rcases h.2 with h0 | ⟨g',cap,cur',h1,h2,h3,h4⟩
 ·exact .inl h0
 ·exact .inr ⟨g',cap,cur',h1,h2,(hO.block g' (by omega)).trans h3,h4⟩
theorem own0 (w : World) (k : IntKind) (e : TypeId) : (w.alloc (.cells #[] e)).ownsRow w.heap.size e 1 (.slice (some ⟨w.heap.size,0,none⟩) 0 0) 0 (cs k []) :=
 World.ownsRow_made (base:=w.heap.size) (e:=e) (size:=1) w #[] 0 (Nat.le_refl _) (Nat.zero_le _) rfl
theorem zbv1 {w w' : World} {base : Nat} {e : TypeId} {v : Value} {n : Nat} {xs : List Value} (hown : w.ownsRow base e 1 v n xs) (hbase : base <= w.heap.size) (hg : w.grownBy w' v.ownBlock) : Below base w w' :=
 (Below.refl base w).grown hg hbase (fun k hk=>(hown.lt k hk).1)
theorem Bb {w w1 w2 : World} {B : Nat} (hb : Below w.heap.size w w1) (h2 : Below B w1 w2) (hB : w.heap.size <= B) : Below w.heap.size w w2:=hb.trans (h2.mono hB)
theorem zeq {w : World} {base : Nat} {e : TypeId} {v : Value} {n n' j : Nat} {k : IntKind} {l r : List Nat} (h : w.ownsRow base e 1 v n (cs k (l ++ r.take j ++ [r.getD j 0]))) (hn : n = n') (hj : j < r.length) : w.ownsRow base e 1 v n' (cs k (l ++ r.take (j + 1))):=by
 rw [f8 r j hj,<- List.append_assoc,<- hn];exact h
theorem yu (w : World) (v : Value) (e : TypeId) : (w.alloc (.cells #[v] e)).cell? ⟨w.heap.size,0,none⟩ = some v:=by simp
variable {P : Program} {w : World} {ops : Array Oper} {rest : List Oper} {o : Oper} {a : Act} {Q : Exit -> Act -> World -> Prop}
theorem app1 (hgd : o.guard = none) (s x : Operand) (t : TypeId) (ho : o.op = .call { callee:=.builtin .append,args:=#[s,x],argTypes:=#[t,t] })
  (base : Nat) (e : TypeId) (k : IntKind) (bytes : Nat) (hby : bytes <= 8) (ht : P.underlying t = some (.slice e)) (hi : (P.info? e).map (fun i=>(i.zero,i.size,i.bytes)) = some (some (.int k 0),1,bytes))
  (v : Value) (n : Nat) (l : List Nat) (hs : a.eval s = v) (hown : w.ownsRow base e 1 v n (cs k l))
  (ad : Addr) (c : Nat) (d : Nat) (hx : a.eval x = .slice (some ad) 1 c) (hd : w.cell? ad = some (.int k d)) (hsm : n <= 1000000) (hbase : base <= w.heap.size)
  (h : ∀ g cap w',w'.ownsRow base e 1 (.slice (some ⟨g,0,none⟩) (n + 1) cap) (n + 1) (cs k (l ++ [d])) -> Below base w w' -> wpList P ops Q rest (a.put o.dst (.slice (some ⟨g,0,none⟩) (n + 1) cap)) w') :
  wpList P ops Q (o :: rest) a w:=by
 obtain ⟨i0,hi0,hz0,hz1,hz2⟩:=info_parts hi
 refine wpList_append_lies w hgd s x t ho base e i0 (.int k 0) 1 bytes ht hi0 hz0 hz1 hz2 rfl (by decide) v n (cs k l) hs hown ad 1 c [.int k d] hx rfl ?_ ?_ (by decide) (by unfold maxLen;omega) ?_ hbase w.heap.size rfl ?_
 ·intro j u hj
  match j,hj with
  | 0,hj=>simp at hj;subst hj;simpa [Addr.add] using hd
 ·intro u hu;simp at hu;subst hu;rfl
 ·have : (n + 1) * bytes <= 1000001 * 8 := Nat.mul_le_mul (by omega) hby
  omega
 ·intro g cap w' h1 h2 h3 h4
  refine h g cap w' ?_ (zbv1 hown hbase h2)
  rw [zjy];exact h1
theorem ztt (hgd : o.guard = none) (s x : Operand) (t : TypeId) (ho : o.op = .call { callee:=.builtin .append,args:=#[s,x],argTypes:=#[t,t] })
  (base : Nat) (e : TypeId) (k : IntKind) (bytes : Nat) (hby : bytes <= 8) (ht : P.underlying t = some (.slice e)) (hi : (P.info? e).map (fun i=>(i.zero,i.size,i.bytes)) = some (some (.int k 0),1,bytes))
  (v : Value) (n : Nat) (l : List Nat) (hs : a.eval s = v) (hown : w.ownsRow base e 1 v n (cs k l))
  (B : Nat) (ao : Option Addr) (m c : Nat) (r : List Nat) (hx : a.eval x = .slice ao m c) (hr : Row k B w ao m c r) (hsm : n + m <= 1000000) (hbase : base <= w.heap.size)
  (h : ∀ v' w',w'.ownsRow base e 1 v' (n + m) (cs k (l ++ r)) -> Below base w w' -> wpList P ops Q rest (a.put o.dst v') w') :
  wpList P ops Q (o :: rest) a w:=by
 obtain ⟨i0,hi0,hz0,hz1,hz2⟩:=info_parts hi
 cases ao with
 | none =>
  have hc:=hr.nil_ rfl
  subst hc
  have hm : m = 0:=by have:=hr.fits;omega
  subst hm
  have hl : r = []:=List.length_eq_zero_iff.1 hr.len
  subst hl
  refine wpList_append_own_none hgd s x t ho base e i0 1 ht hi0 v n (cs k l) hs hown hx ?_
  refine h v w (by simpa using hown) (Below.refl _ _)
 | some ad =>
  refine wpList_append_own w hgd s x t ho base e i0 (.int k 0) 1 bytes ht hi0 hz0 hz1 hz2 rfl (by decide) v n (cs k l) hs hown ad m c (cs k r) hx (by rw [qz,hr.len];omega) ?_ (zfv1 k r) (by unfold maxLen;omega) ?_ hbase ?_
  ·intro j u hj
   obtain ⟨h1,rfl⟩:=zfu1 hj
   obtain ⟨b,o',hao,_,hc⟩:=hr.rd.some (by omega)
   cases hao
   have:=hc j h1
   unfold Addr.add
   by_cases hj0 : j = 0
   ·subst hj0;simpa using this
   ·rw [if_neg hj0];exact this
  ·have : (n + m) * bytes <= 1000000 * 8 := Nat.mul_le_mul hsm hby
   omega
  ·intro v' w' h1 h2 _
   refine h v' w' ?_ (zbv1 hown hbase h2)
   rw [zjy];exact h1
theorem zer : (Tryz.prog.info? 163).map (fun i=>(i.zero,i.size,i.bytes)) = some (some (.int .u32 0),1,4):=by kernel_rfl
theorem xg : (Tryz.prog.info? 5).map (fun i=>(i.zero,i.size,i.bytes)) = some (some (.int .u8 0),1,1):=by kernel_rfl
set_option maxHeartbeats 400000 in
theorem ztu (ao : Option Addr) (n cap : Nat) (l : List Nat) (w : World) (R : Row .u32 B32 w ao n cap l) (hs : n <= 1000) :
  Calls Tryz.prog 184 #[.slice ao n cap] w fun e w'=>∃ ao' cap',e = .returned (.slice ao' n cap') /\ Own .u32 163 B32 w.heap.size w' ao' n cap' l /\ Below w.heap.size w w':=by
 have heq:=fun wx=>Lib.run_eql_slice_nil (P:=Tryz.prog) wx 102 163 ao n cap 0 0 Tryz.underlying102
 have HD : Hid (Dg B32 l):=R.dg
 cases ao with
 | none =>
  have hc:=R.nil_ rfl
  subst hc
  have hm : n = 0:=by have:=R.fits;omega
  subst hm
  have hl : l = []:=List.length_eq_zero_iff.1 R.len
  subst hl
  simp only [Option.isNone_none] at heq
  clear R HD
  go_enter Tryz.func184,Tryz.ntmps184
  go_wp2
  go_ret
  exact ⟨none,0,rfl,Own.nil _ _ _ _ _ _,Below.refl _ _⟩
 | some a =>
  simp only [Option.isNone_some] at heq
  have HR : Hid (Row .u32 B32 w (some a) n cap l):=R
  clear R
  go_enter Tryz.func184,Tryz.ntmps184
  go_wp2_with (at_builtin;refine ztt rfl _ _ 102 rfl w.heap.size 163 .u32 4 (by decide) Tryz.underlying102 zer _ 0 [] rfl (own0 w .u32 163) B32 (some a) n cap l rfl (HR.out.below (Ba _ _)) (by omega) (by simp) ?_;intro v' w1 hown hbel)
  simp only [Nat.zero_add,List.nil_append] at hown
  have hb:=Bb (Ba w (.cells #[] 163)) hbel (Nat.le_refl _)
  have HO:=hid hown
  have HB:=hid hb
  clear hown hbel hb
  go_wp2
  go_ret
  obtain ⟨ao',cap',rfl,hO⟩:=x5 HO.out HD.out
  exact ⟨ao',cap',rfl,hO,HB.out⟩
set_option maxHeartbeats 400000 in
theorem zfc (ao : Option Addr) (n cap : Nat) (l : List Nat) (w : World) (R : Row .u8 256 w ao n cap l) (hs : n <= 1000) :
  Calls Tryz.prog 140 #[.slice ao n cap] w fun e w'=>∃ m ao' cap',m <= n /\ e = .returned (.slice ao' m cap') /\ Own .u8 5 256 w.heap.size w' ao' m cap' (l.take m) /\ Tr (l.take m) /\ val 256 (l.take m) = val 256 l /\ Below w.heap.size w w':=by
 have HR : Hid (Row .u8 256 w ao n cap l):=R
 obtain ⟨hn,hcap,hmax,_,hdg,hrd⟩:=R
 unfold maxLen at hmax
 have HN : Hid (l.length = n):=hn
 have HD : Hid (Dg 256 l):=hdg
 clear hn hdg
 go_enter Tryz.func140,Tryz.ntmps140
 go_wp2
 go_loop [3] (fun t=>∃ m : Nat,m <= n /\ t = .int .i64 m /\ Hid (val 256 (l.take m) = val 256 l)) (fun t=>(intOf t).toNat)
 case atStart=>exact ⟨n,Nat.le_refl _,rfl,by unfold Hid;rw [List.take_of_length_le (by rw [HN.out];exact Nat.le_refl _)]⟩
 case round =>
  obtain ⟨m,hm,rfl,hv⟩:=hrel
  have HR2 : Hid (Row .u8 256 (w.alloc (.cells #[] 5)) ao m cap (l.take m)):=(HR.out.take hm cap (by omega) (Nat.le_refl _)).below (Ba _ _)
  by_cases hz : m = 0
  ·subst hz
   go_wp2_with (at_builtin;refine ztt rfl _ _ 123 rfl w.heap.size 5 .u8 1 (by decide) Tryz.underlying123 xg _ 0 [] rfl (own0 w .u8 5) 256 ao 0 cap (l.take 0) rfl HR2.out (by omega) (by simp) ?_;intro v' w1 hown hbel)
   simp only [Nat.zero_add,List.nil_append] at hown
   have hb:=Bb (Ba w (.cells #[] 5)) hbel (Nat.le_refl _)
   have HO:=hid hown
   have HB:=hid hb
   clear hown hbel hb
   go_wp2
   go_ret
   obtain ⟨ao',cap',rfl,hO⟩:=x5 HO.out (HD.out.take 0)
   exact ⟨0,Nat.zero_le _,ao',cap',rfl,hO,.inl (by simp),hv.out,HB.out⟩
  ·obtain ⟨b, o, rfl, hl, hc⟩ := hrd.some (by rw [HN.out]; omega)
   have hc1:=hc (m - 1) (by rw [HN.out];omega)
   obtain ⟨d,hd⟩ : ∃ d,d = l.getD (m - 1) 0:=⟨_,rfl⟩
   rw [<- hd] at hc1
   have H1 : Hid (d = l.getD (m - 1) 0):=hd
   clear hd hc hrd
   have hpos : (0 : Int) < m:=by omega
   by_cases hd0 : d = 0
   ·subst hd0
    go_wp2
    go_round
    case rel=>exact ⟨m - 1,by omega,by go_num,by
     unfold Hid
     rw [<- hv.out]
     have:=gz 256 l (m - 1) (by rw [HN.out];omega) H1.out.symm
     rw [show m - 1 + 1 = m by omega] at this
     exact this.symm⟩
    case measure=>simp [intOf];omega
   ·have hne : ((d : Int) == 0) = false := by simp; omega
    go_wp2_with (at_builtin;refine ztt rfl _ _ 123 rfl w.heap.size 5 .u8 1 (by decide) Tryz.underlying123 xg _ 0 [] rfl (own0 w .u8 5) 256 _ m cap (l.take m) rfl HR2.out (by omega) (by simp) ?_;intro v' w1 hown hbel)
    simp only [Nat.zero_add,List.nil_append] at hown
    have hb:=Bb (Ba w (.cells #[] 5)) hbel (Nat.le_refl _)
    have HO:=hid hown
    have HB:=hid hb
    clear hown hbel hb
    go_wp2
    go_ret
    obtain ⟨ao',cap',rfl,hO⟩:=x5 HO.out (HD.out.take m)
    exact ⟨m,hm,ao',cap',rfl,hO,Tr.take_of (by rw [HN.out];exact hm) (.inr (by rw [<- H1.out];exact hd0)),hv.out,HB.out⟩
def b4 (d : Nat) : List Nat:=[d % 256,d / 256 % 256,d / 65536 % 256,d / 16777216 % 256]
def g6 (l : List Nat) : List Nat:=l.flatMap b4
theorem zfw1 (d : Nat) (h : d < B32) : val 256 (b4 d) = d:=by
 unfold B32 at h
 simp only [b4,val];omega
theorem zhu1 (d : Nat) : Dg 256 (b4 d):=by
 intro x hx
 simp only [b4,List.mem_cons,List.not_mem_nil,or_false] at hx
 omega
theorem zqw (l : List Nat) : Dg 256 (g6 l):=by
 intro x hx
 obtain ⟨d,_,hd⟩:=List.mem_flatMap.1 hx
 exact zhu1 d x hd
theorem zmx (l : List Nat) (h : Dg B32 l) : val 256 (g6 l) = val B32 l:=by
 induction l with
 | nil=>rfl
 | cons d l ih =>
  have h1:=ih (fun x hx=>h x (by simp [hx]))
  have h2 : d < B32:=h d (by simp)
  show val 256 (b4 d ++ g6 l) = _
  have e : 256 ^ (b4 d).length = B32:=by simp [b4,B32]
  rw [zaw,h1,zfw1 d h2,qx,e]
theorem zjz (l : List Nat) (k : Nat) (h : k < l.length) : g6 (l.take (k + 1)) = g6 (l.take k) ++ b4 (l.getD k 0):=by
 rw [f8 l k h];simp [g6]
set_option maxHeartbeats 1000000 in
theorem ztv (neg : Bool) (ao : Option Addr) (n cap : Nat) (l : List Nat) (w : World) (R : Row .u32 B32 w ao n cap l) (hs : n <= 100) :
  Calls Tryz.prog 139 #[.agg #[.bool neg,.slice ao n cap]] w fun e w'=>∃ m ao' cap' l',e = .returned (.slice ao' m cap') /\ m <= 4 * n /\ Own .u8 5 256 w.heap.size w' ao' m cap' l' /\ Tr l' /\ val 256 l' = val B32 l /\ Below w.heap.size w w':=by
 have HR:=hid R
 obtain ⟨hn,hcap,hmax,_,hdg,hrd⟩:=R
 unfold maxLen at hmax
 have HN:=hid hn
 have HD:=hid hdg
 have HRd:=hid hrd
 clear hn hdg hrd
 go_enter Tryz.func139,Tryz.ntmps139
 go_wp2
 go_loopw [3,4,5] (fun v i _j wr=>∃ m : Nat,m <= n /\ i = .int .i64 m /\ Hid (wr.ownsRow (w.heap.size + 1) 5 1 v (4 * m) (cs .u8 (g6 (l.take m))) /\ Below (w.heap.size + 1) (w.alloc (.cells #[.bool neg,.slice ao n cap] 104)) wr)) (fun _ i _ _=>n - (intOf i).toNat)
 case atStart=>exact ⟨0,Nat.zero_le _,rfl,by simpa [g6,cs] using World.ownsRow_nil _ _ _ _,Below.refl _ _⟩
 case round =>
  obtain ⟨m,hm,rfl,hH⟩:=hrel
  have hbox : wr.cell? ⟨w.heap.size,1,none⟩ = some (.slice ao n cap):=(hH.out.2.cell (p:=⟨w.heap.size,1,none⟩) (by simp)).trans (by simp)
  by_cases hlt : m < n
  ·obtain ⟨wo, rfl⟩ : ∃ wo : World, wo = wr := ⟨_, rfl⟩
   obtain ⟨b,o,rfl,hl,hc⟩:=HRd.out.some (by rw [HN.out];omega)
   obtain ⟨d,hd⟩ : ∃ d,d = l.getD m 0:=⟨_,rfl⟩
   have hdb : d < 4294967296:=by rw [hd];exact HD.out.getD _ (by rw [HN.out];omega)
   have HC : Hid (w.cell? ⟨b,o + m,none⟩ = some (.int .u32 d)):=by rw [hd];exact hc m (by rw [HN.out];omega)
   have HDm:=hid hd
   clear hc hd
   go_wp2
   go_loopw [3,5] (fun v j wr=>∃ k : Nat,k <= 4 /\ j = .int .i64 k /\ Hid (wr.ownsRow (w.heap.size + 1) 5 1 v (4 * m + k) (cs .u8 (g6 (l.take m) ++ (b4 d).take k)) /\ Below (w.heap.size + 1) (w.alloc (.cells #[.bool neg,.slice (some ⟨b,o,none⟩) n cap] 104)) wr)) (fun _ j _=>4 - (intOf j).toNat)
   case atStart=>exact ⟨0,by omega,rfl,by simpa using hH.out.1,hH.out.2⟩
   case round =>
    obtain ⟨k,hk,rfl,hI⟩:=hrel
    have hbox' : wr.cell? ⟨w.heap.size,1,none⟩ = some (.slice (some ⟨b,o,none⟩) n cap):=(hI.out.2.cell (p:=⟨w.heap.size,1,none⟩) (by simp)).trans (by simp)
    have hcell' : wr.cell? ⟨b,o + m,none⟩ = some (.int .u32 d):=(hI.out.2.cell (p:=⟨b,o + m,none⟩) (by simp;omega)).trans (by rw [World.cell?_alloc_past _ _ _ hl];exact HC.out)
    have hsz : Hid (w.heap.size + 1 <= wr.heap.size):=by have:=hI.out.2.size;unfold Hid;simpa using this
    clear hbox
    by_cases hk4 : k < 4
    ·obtain ⟨hI1, hI2⟩ := hI.out
     have HI1:=hid hI1
     have HI2:=hid hI2
     clear hI hI1 hI2
     have : k = 0 \/ k = 1 \/ k = 2 \/ k = 3:=by omega
     rcases this with rfl | rfl | rfl | rfl
     ·go_wp2_with (at_builtin; refine app1 rfl _ _ 123 rfl (w.heap.size + 1) 5 .u8 1 (by decide) Tryz.underlying123 xg _ _ _ rfl (HI1.out.alloc _) ⟨wr.heap.size, 0, none⟩ 1 ((b4 d).getD 0 0) rfl ?c0 (by omega) (by have := hsz.out; simp; omega) ?_; rotate_right; intro g cap' w1 hown hbel)
      case c0=>rw [yu];simp [b4]
      case roundEnd=>exact ⟨⟨1,by omega,rfl,zeq hown (by omega) (by simp [b4]),(HI2.out.alloc hsz.out _).trans hbel⟩,by simp [intOf]⟩
     ·go_wp2_with (at_builtin; refine app1 rfl _ _ 123 rfl (w.heap.size + 1) 5 .u8 1 (by decide) Tryz.underlying123 xg _ _ _ rfl (HI1.out.alloc _) ⟨wr.heap.size, 0, none⟩ 1 ((b4 d).getD 1 0) rfl ?c1 (by omega) (by have := hsz.out; simp; omega) ?_; rotate_right; intro g cap' w1 hown hbel)
      case c1=>rw [yu];simp [b4]
      case roundEnd=>exact ⟨⟨2,by omega,rfl,zeq hown (by omega) (by simp [b4]),(HI2.out.alloc hsz.out _).trans hbel⟩,by simp [intOf]⟩
     ·go_wp2_with (at_builtin; refine app1 rfl _ _ 123 rfl (w.heap.size + 1) 5 .u8 1 (by decide) Tryz.underlying123 xg _ _ _ rfl (HI1.out.alloc _) ⟨wr.heap.size, 0, none⟩ 1 ((b4 d).getD 2 0) rfl ?c2 (by omega) (by have := hsz.out; simp; omega) ?_; rotate_right; intro g cap' w1 hown hbel)
      case c2=>rw [yu];simp [b4]
      case roundEnd=>exact ⟨⟨3,by omega,rfl,zeq hown (by omega) (by simp [b4]),(HI2.out.alloc hsz.out _).trans hbel⟩,by simp [intOf]⟩
     ·go_wp2_with (at_builtin; refine app1 rfl _ _ 123 rfl (w.heap.size + 1) 5 .u8 1 (by decide) Tryz.underlying123 xg _ _ _ rfl (HI1.out.alloc _) ⟨wr.heap.size, 0, none⟩ 1 ((b4 d).getD 3 0) rfl ?c3 (by omega) (by have := hsz.out; simp; omega) ?_; rotate_right; intro g cap' w1 hown hbel)
      case c3=>rw [yu];simp [b4];omega
      case roundEnd=>exact ⟨⟨4,by omega,rfl,zeq hown (by omega) (by simp [b4]),(HI2.out.alloc hsz.out _).trans hbel⟩,by simp [intOf]⟩
    ·obtain rfl : k = 4 := by omega
     go_wp2
     case roundEnd =>
      refine ⟨⟨m + 1,by omega,by go_num,?_,hI.out.2⟩,by simp [intOf];omega⟩
      have:=hI.out.1
      rw [zjz l m (by rw [HN.out];omega),<- HDm.out]
      exact this
  ·obtain rfl : m = n := by omega
   obtain ⟨ao',cap',hu,hO⟩:=x5 hH.out.1 (zqw _)
   subst hu
   have HO:=hid hO
   clear hO
   have hb0 : Hid (Below w.heap.size w wr):=(Ba w _).trans (hH.out.2.mono (Nat.le_succ _))
   go_wp2_with fail
   refine (zfc ao' (4 * m) cap' _ wr HO.out.row (by omega)).mono ?_
   rintro e w1 ⟨m',ao2,cap2,hm',rfl,hO2,ht,hv,hb⟩
   have H2:=hid hO2
   have H3:=hid ht
   have H4:=hid hv
   have H5:=hid hb
   clear hO2 ht hv hb
   go_wp2
   go_ret
   refine ⟨m',ao2,cap2,_,rfl,hm',H2.out.base hb0.out.size,H3.out,?_,Bt hb0.out H5.out⟩
   rw [H4.out,zmx _ (HD.out.take m),List.take_of_length_le (by rw [HN.out];omega)]
theorem qe {w : World} {b i : Nat} {v : Value} (h : w.cell? ⟨b,i,none⟩ = some v) : b < w.heap.size:=World.block_lt_of_cell? w ⟨b,i,none⟩ h
theorem zfx1 {w w2 : World} {o : Obj} {p : Nat} {c : Array Value} {t : TypeId} (h : w.heap[p]? = some (.cells c t (0,0))) (hb : Below (p + 1) (w.alloc o) w2) : w2.heap[p]? = some (.cells c t (0,0)) :=
 (hb.block p (by omega)).trans ((Below.heap_alloc w o p (Array.getElem?_eq_some_iff.1 h).1).trans h)
set_option maxHeartbeats 2000000 in
theorem zdp (neg : Bool) (ao : Option Addr) (n cap : Nat) (b : List Nat) (w : World) (R : Row .u8 256 w ao n cap b) (hs : n <= 1000) :
  Calls Tryz.prog 138 #[.bool neg,.slice ao n cap] w fun e w'=>∃ x en,e = .returned (.tuple #[x,.int .i64 en]) /\ Ans w' x en neg (val 256 b) /\ Below w.heap.size w w':=by
 have HR:=hid R
 clear R
 go_enter Tryz.func138,Tryz.ntmps138
 go_wp2_with fail
 refine (zfc ao n cap b _ (HR.out.below (Ba _ _)) hs).mono ?_
 rintro e w1 ⟨m,ao1,cap1,hm,rfl,hO,ht,hv,hb1⟩
 have hd0 : w1.heap[w.heap.size]? = some (.cells #[.bool false,.slice none 0 0] 104 (0,0)):=(hb1.block w.heap.size (by simp)).trans (zd _ _ _)
 have hlen:=hO.row.len
 generalize b.take m = r at *
 have hcap1:=hO.row.fits
 have hmax1:=hO.row.most
 unfold maxLen at hmax1
 have HO:=hid hO
 have HT:=hid ht
 have HV:=hid hv
 have HB:=hid (Bt (Ba w (.cells #[.bool false,.slice none 0 0] 104)) hb1)
 have HL:=hid hlen
 have HD0:=hid hd0
 have hsz : w.heap.size < w1.heap.size:=(Array.getElem?_eq_some_iff.1 hd0).1
 clear hO ht hv hb1 hlen hd0 HR
 obtain ⟨sg,hsg⟩ : ∃ sg,sg = (neg && decide (0 < m)):=⟨_,rfl⟩
 have HSG:=hid hsg
 clear hsg
 cases neg
 all_goals
  go_wp2
  go_loopw [7,8,9] (fun i _ _ wr=>∃ j : Nat,∃ v,i = .int .i64 ((4 * j : Nat) : Int) /\ 4 * j <= m + 3 /\ Hid (wr.heap[w1.heap.size]? = some (.cells #[.bool sg,v] 104 (0,0)) /\ wr.ownsRow (w1.heap.size + 1) 163 1 v j (cs .u32 (lws r j)) /\ Below w1.heap.size w1 wr)) (fun i _ _ _=>m + 3 - (intOf i).toNat)
  case atStart =>
   refine ⟨0,.slice none 0 0,rfl,by omega,?_,?_,Ba _ _⟩
   ·rw [HSG.out];exact zd _ _ _
   ·simpa [lws,cs] using World.ownsRow_nil _ _ _ _
  case round =>
   obtain ⟨j,v,rfl,hj,hH⟩:=hrel
   obtain ⟨h1,h2,h3⟩:=hH.out
   have hc0:=za h1 0
   have hc1:=za h1 1
   have hf1:=zf h1 1
   simp at hc0 hc1
   have hz1 : w1.heap.size < wr.heap.size:=(Array.getElem?_eq_some_iff.1 h1).1
   have HZ1:=hid hz1
   have H2:=hid h2
   have H3:=hid h3
   have H1:=hid h1
   clear h1 h2 h3 hH hz1
   by_cases hlt : 4 * j < m
   ·obtain ⟨bb, o, rfl, hl, hcl⟩ := HO.out.row.rd.some (by rw [HL.out]; omega)
    have HCL : Hid (∀ i,i < m -> wr.cell? ⟨bb,o + i,none⟩ = some (.int .u8 (r.getD i 0 : Nat))):=fun i hi=>(H3.out.cell (p:=⟨bb,o + i,none⟩) hl).trans (hcl i (by rw [HL.out];exact hi))
    clear hcl
    go_wp2
    go_loop [8,9] (fun a k=>∃ q acc : Nat,q <= 4 /\ 4 * j + q <= m /\ k = .int .i64 q /\ a = .int .u32 acc /\ Hid (acc = val 256 ((r.drop (4 * j)).take q))) (fun _ k=>4 - (intOf k).toNat)
    case atStart=>exact ⟨0,0,by omega,by omega,rfl,rfl,rfl⟩
    case round =>
     obtain ⟨q,acc,hq,hqm,rfl,rfl,hacc⟩:=hrel
     have hlim : acc < 256 ^ q:=by rw [hacc.out];exact zfs1 HO.out.row.dg j q
     by_cases hgo : q < 4 /\ 4 * j + q < m
     ·obtain ⟨hq4, hqlt⟩ := hgo
      have hcd:=HCL.out (4 * j + q) hqlt
      obtain ⟨d,hd⟩ : ∃ d,d = r.getD (4 * j + q) 0:=⟨_,rfl⟩
      have hdb : d < 256:=by rw [hd];exact HO.out.row.dg.getD _ (by rw [HL.out];exact hqlt)
      rw [<- hd] at hcd
      have HS : Hid (val 256 ((r.drop (4 * j)).take (q + 1)) = acc + 256 ^ q * d):=by
       unfold Hid;rw [zyl r j q (by rw [HL.out];exact hqlt),<- hacc.out,<- hd]
      clear hd hacc
      have hq' : q = 0 \/ q = 1 \/ q = 2 \/ q = 3:=by omega
      rcases hq' with rfl | rfl | rfl | rfl
      ·obtain rfl : acc = 0 := by simp at hlim; exact hlim
       have hor:=zyn d hdb
       simp only [Nat.add_zero] at hcd
       clear hlim
       go_wp2
       exact ⟨⟨1,d,by omega,by omega,rfl,rfl,by unfold Hid;rw [HS.out];omega⟩,by simp [intOf]⟩
      ·have hor := zym acc d (by omega) hdb
       obtain ⟨A,hA⟩ : ∃ A,A = acc + 256 * d:=⟨_,rfl⟩
       rw [<- hA] at hor
       have HA:=hid hA
       clear hlim hA
       go_wp2
       exact ⟨⟨2,A,by omega,by omega,rfl,rfl,by unfold Hid;rw [HS.out,HA.out]⟩,by simp [intOf]⟩
      ·have hor := ztp acc d (by omega) hdb
       obtain ⟨A,hA⟩ : ∃ A,A = acc + 65536 * d:=⟨_,rfl⟩
       rw [<- hA] at hor
       have HA:=hid hA
       clear hlim hA
       go_wp2
       exact ⟨⟨3,A,by omega,by omega,rfl,rfl,by unfold Hid;rw [HS.out,HA.out]⟩,by simp [intOf]⟩
      ·have hor := ztq acc d (by omega) hdb
       obtain ⟨A,hA⟩ : ∃ A,A = acc + 16777216 * d:=⟨_,rfl⟩
       rw [<- hA] at hor
       have HA:=hid hA
       clear hlim hA
       go_wp2
       exact ⟨⟨4,A,by omega,by omega,rfl,rfl,by unfold Hid;rw [HS.out,HA.out]⟩,by simp [intOf]⟩
     ·have HLW : Hid (acc = lw r j) := by
       unfold Hid lw;rw [hacc.out]
       by_cases h4 : q = 4
       ·rw [h4]
       ·have hqe : 4 * j + q = m := by omega
        rw [List.take_of_length_le (l:=r.drop (4 * j)) (i:=q) (by rw [List.length_drop,HL.out];omega),List.take_of_length_le (l:=r.drop (4 * j)) (i:=4) (by rw [List.length_drop,HL.out];omega)]
      have hgo' : q = 4 \/ q < 4 /\ 4 * j + q = m:=by omega
      have hacb : acc < 4294967296:=by rw [HLW.out];exact zfq1 HO.out.row.dg j
      clear hacc hlim hgo
      rcases hgo' with rfl | ⟨hq4,hqe⟩
      all_goals
       go_wp2_with (at_builtin;refine app1 rfl _ _ 102 rfl (w1.heap.size + 1) 163 .u32 4 (by decide) Tryz.underlying102 zer _ _ _ rfl (H2.out.alloc _) ⟨wr.heap.size,0,none⟩ 1 acc rfl (yu _ _ _) (by omega) (by have:=HZ1.out;simp;omega) ?_;intro g cap' w2 hown hbel;have hk:=zfx1 H1.out hbel;have hk1 : w2.cell? ⟨w1.heap.size,1,none⟩ = some v:=za hk 1;have hkf:=zf hk 1;have HK:=hid hk;have HW:=hid hown;have HE:=hid hbel;clear hk hown hbel)
       refine ⟨⟨j + 1,.slice (some ⟨g,0,none⟩) (j + 1) cap',by go_num,by omega,zy HK.out _,?_,?_⟩,by simp [intOf];omega⟩
       ·rw [zih,<- HLW.out];exact ownsRow_setCell_below HW.out (by simp) _
       ·exact ((H3.out.alloc (by have:=HZ1.out;omega) _).trans (HE.out.mono (by omega))).setCell (Nat.le_refl _) _
   ·have hjm : m <= 4 * j := by omega
    obtain ⟨ao2,cap2,hu,hO2⟩:=x5 H2.out (ztn HO.out.row.dg j)
    subst hu
    have HV2 : Hid (val B32 (lws r j) = val 256 b):=by
     unfold Hid;rw [zto r j (by rw [HL.out];exact hj),List.take_of_length_le (by rw [HL.out];exact hjm),HV.out]
    have HT2:=hid (zfr1 HT.out j (by rw [HL.out];exact hjm) (by rw [HL.out];exact hj))
    have HO2:=hid hO2
    have HSG2 : Hid (decide (0 < m) = decide (lws r j ≠ [])):=by
     unfold Hid
     rw [decide_eq_decide,<- List.length_pos_iff,vz]
     omega
    have hbnd:=hO2.row.most
    have hft2:=hO2.row.fits
    unfold maxLen at hbnd
    have hd0 : wr.heap[w.heap.size]? = some (.cells #[.bool false,.slice none 0 0] 104 (0,0)):=(H3.out.block _ hsz).trans HD0.out
    have hq0:=za hd0 0
    have hq1:=za hd0 1
    have hqf0:=zf hd0 0
    have hqf1:=zf hd0 1
    simp at hq0 hq1
    have HQ:=hid hd0
    clear hd0 hO2
    have HB3:=hid (HB.out.trans (H3.out.mono (Nat.le_of_lt hsz)))
    by_cases h40 : j <= 40
    ·have e40 : decide ((40 : Int) < j) = false := by simp; omega
     go_wp2
     refine bodyPost_ret (v:=.tuple #[.agg #[.bool sg,.slice ao2 j cap2],.int .i64 0]) (by simp [results,Tryz.results138,go_sem,hq0,hq1]) rfl ⟨_,_,rfl,.inl ⟨?_,rfl,lws r j,⟨ao2,j,cap2,?_,((HO2.out.setFar (p:=⟨w.heap.size,0,none⟩) (by simp;omega) _).setFar (p:=⟨w.heap.size,1,none⟩) (by simp;omega) _).row⟩,HT2.out,HV2.out⟩,(HB3.out.setCell (Nat.le_refl _) _).setCell (Nat.le_refl _) _⟩
     ·rw [<- HV2.out,<- zab (ztn HO.out.row.dg j) HT2.out,vz];exact h40
     ·rw [HSG.out,HSG2.out]
    ·have e40 : decide ((40 : Int) < j) = true := by simp; omega
     go_wp2
     refine bodyPost_ret (v:=.tuple #[.agg #[.bool false,.slice none 0 0],.int .i64 10]) (by simp [results,Tryz.results138,go_sem,hq0,hq1]) rfl ⟨_,_,rfl,.inr ⟨?_,rfl,rfl⟩,(HB3.out.setCell (Nat.le_refl _) _).setCell (Nat.le_refl _) _⟩
     have:=(zab (ztn HO.out.row.dg j) HT2.out)
     rw [vz,HV2.out] at this
     exact Classical.byContradiction fun h=>h40 (this.2 h)
end Go.Proofs.YticimejfjjmikaaGreatDoor
