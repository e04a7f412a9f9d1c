import Derived.Test.YticimejfjjmikaaGreatDoorW7
import Derived.Test.YticimejfjjmikaaGreatDoorW1
import Derived.Lib.Strings
set_option linter.unusedVariables false
set_option linter.unusedSimpArgs false
namespace Go.Proofs.YticimejfjjmikaaGreatDoor
open Go.RowKit
theorem zcr1 (hi lo : Nat) (h1 : hi < 4294967296) (h2 : lo < 4294967296) : bits .or .u64 ((hi : Int) * 4294967296) (lo : Int) = ((hi * 4294967296 + lo : Nat) : Int):=by
 rw [show ((hi : Int) * 4294967296) = ((hi * 4294967296 : Nat) : Int) by omega,u64_or_nat _ _ (by omega) (by omega),nat_join 32 _ _ (by omega) (by omega)]
theorem zyr (z v : Nat) (h : z / v < 4294967296) : IntKind.u64.wrap ((z : Int).tdiv v) % 4294967296 = ((z / v : Nat) : Int):=by
 rw [<- Int.ofNat_tdiv,IntKind.wrap_u64];generalize z / v = q at *;omega
theorem zys (z v : Nat) (h : z % v < 4294967296) : (z : Int).tmod v % 4294967296 = ((z % v : Nat) : Int):=by
 rw [<- Int.ofNat_tmod];generalize z % v = q at *;omega
theorem zcs1 {a b c d : Value} (h1 : a = c) (h2 : b = d) : Ending.returned (.tuple #[a,b]) = .returned (.tuple #[c,d]):=by rw [h1,h2]
set_option maxHeartbeats 400000 in
theorem ztw (hi lo v : Nat) (hh : hi < v) (hl : lo < B32) (hv : v < B32) (w : World) :
  Calls Tryz.prog 202 #[.int .u32 hi,.int .u32 lo,.int .u32 v] w fun e w'=>e = .returned (.tuple #[.int .u32 ((hi * B32 + lo) / v : Nat),.int .u32 ((hi * B32 + lo) % v : Nat)]) /\ ∃ k,w' = w.drewN k:=by
 unfold B32 at *
 have e1 : ((v : Int) != 0) = true:=by rw [bne_iff_ne];omega
 have e2 : decide ((v : Int) <= hi) = false:=by simp;omega
 have hor:=zcr1 hi lo (by omega) hl
 obtain ⟨z,hz⟩ : ∃ z,z = hi * 4294967296 + lo:=⟨_,rfl⟩
 rw [<- hz] at hor ⊢
 have hq : z / v < 4294967296:=by
  rw [Nat.div_lt_iff_lt_mul (by omega)]
  have : (hi + 1) * 4294967296 <= v * 4294967296:=Nat.mul_le_mul_right _ hh
  omega
 have hr : z % v < 4294967296:=by have:=Nat.mod_lt z (by omega : 0 < v);omega
 have hz2 : z < 18446744073709551616:=by omega
 have HQ : Hid (z / v < 4294967296):=hq
 have HR : Hid (z % v < 4294967296):=hr
 clear hz hq hr hz2
 go_enter Tryz.func202,Tryz.ntmps202
 go_wp2
 go_quiet (fail)
 go_wp2
 go_ret2
 refine ⟨zcs1 ?_ ?_,nq,rfl⟩
 ·exact congrArg (Value.int .u32) (zyr z v HQ.out)
 ·exact congrArg (Value.int .u32) (zys z v HR.out)
theorem ztx {B r v q : Nat} (hv : 0 < v) (m : Nat) (L : List Nat) (hm : m < L.length) (h1 : val B (L.drop (m + 1)) = q * v + r) (hr : r < v) :
  val B (L.drop m) = ((r * B + L.getD m 0) / v + B * q) * v + (r * B + L.getD m 0) % v:=by
 rw [zcm B L m hm,h1]
 have:=Nat.div_add_mod (r * B + L.getD m 0) v
 rw [Nat.add_mul,Nat.mul_add,Nat.mul_assoc B q v,Nat.mul_comm B r]
 rw [Nat.mul_comm v] at this
 omega
theorem zad {l q : List Nat} {m x : Nat} (hm : m < l.length) : (l.take (m + 1) ++ q).set m x = l.take m ++ (x :: q):=by
 rw [f8 l m hm,List.append_assoc,List.set_append,if_neg (by rw [List.length_take];omega),List.length_take,Nat.min_eq_left (by omega)]
 simp
set_option maxHeartbeats 1000000 in
theorem zka (g o n cap : Nat) (cur : Array Value) (l : List Nat) (v : Nat) (w : World) (W : Win .u32 163 w g o n cur l) (hd : Dg B32 l) (hn : n <= maxLen) (hv0 : 0 < v) (hv : v < B32) :
  Calls Tryz.prog 186 #[.slice (some ⟨g,o,none⟩) n cap,.int .u32 v] w fun e w'=>e = .returned (.int .u32 (val B32 l % v : Nat)) /\ ∃ l',Onto .u32 163 g o n w w' cur l' /\ Dg B32 l' /\ val B32 l' = val B32 l / v:=by
 have HW : Hid (Win .u32 163 w g o n cur l):=W
 have HD : Hid (Dg B32 l):=hd
 have HL : Hid (l.length = n):=W.len
 unfold maxLen at hn
 clear W hd
 go_enter Tryz.func186,Tryz.ntmps186
 go_wp2
 go_loopw [5,6] (fun t i wr=>∃ m r : Nat,∃ q : List Nat,m <= n /\ i = .int .i64 ((m : Int) - 1) /\ t = .int .u32 r /\ r < v /\ Hid (q.length = n - m /\ Dg B32 q /\ val B32 (l.drop m) = val B32 q * v + r /\ Onto .u32 163 g o n w wr cur (l.take m ++ q))) (fun _ i _=>(intOf i + 1).toNat)
 case atStart=>exact ⟨n,0,[],Nat.le_refl _,rfl,rfl,hv0,by simp,Dg.nil _,by rw [List.drop_eq_nil_of_le (by rw [HL.out];omega)];simp [val],by
  rw [List.take_of_length_le (by rw [HL.out];omega),List.append_nil];exact HW.out.onto⟩
 case round =>
  obtain ⟨m,r,q,hm,rfl,rfl,hr,hH⟩:=hrel
  by_cases hz : m = 0
  ·subst hz
   go_wp2
   go_ret
   obtain ⟨h1,h2,h3,h4⟩:=hH.out
   rw [List.drop_zero] at h3
   rw [h3]
   refine ⟨congrArg (fun z : Nat=>Ending.returned (.int .u32 (z : Int))) ?_,q,by simpa using h4,h2,?_⟩
   ·rw [Nat.mul_comm,Nat.mul_add_mod,Nat.mod_eq_of_lt hr]
   ·rw [Nat.mul_comm,Nat.mul_add_div hv0,Nat.div_eq_of_lt hr];rfl
  ·obtain ⟨p, rfl⟩ : ∃ p, m = p + 1 := ⟨m - 1, by omega⟩
   obtain ⟨d,hd⟩ : ∃ d,d = l.getD p 0:=⟨_,rfl⟩
   have hll : p < l.length:=by rw [HL.out];omega
   have hdb : d < B32:=by rw [hd];exact HD.out.getD _ hll
   have hc : wr.cell? ⟨g,o + p,none⟩ = some (.int .u32 d):=by
    have:=hH.out.2.2.2.cell (i:=p) (by omega)
    rw [fs (by rw [List.length_take];omega),zcn (by omega),<- hd] at this
    exact this
   have hf : wr.frozen? ⟨g,o + p,none⟩ = false:=hH.out.2.2.2.frozen _
   have H1 : Hid (d = l.getD p 0):=hd
   have HP : Hid (p < l.length):=hll
   clear hd hll
   obtain ⟨Q,hQ⟩ : ∃ Q,Q = (r * B32 + d) / v:=⟨_,rfl⟩
   obtain ⟨R,hR⟩ : ∃ R,R = (r * B32 + d) % v:=⟨_,rfl⟩
   have HC : Hid (∀ w,Calls Tryz.prog 202 #[.int .u32 r,.int .u32 d,.int .u32 v] w fun e w'=>e = .returned (.tuple #[.int .u32 Q,.int .u32 R]) /\ ∃ k,w' = w.drewN k):=fun w=>by rw [hQ,hR];exact ztw r d v hr hdb hv w
   have HQ : Hid (Q = (r * B32 + d) / v):=hQ
   have HR : Hid (R = (r * B32 + d) % v):=hR
   have hRv : R < v:=by rw [hR];exact Nat.mod_lt _ hv0
   have HB : Hid (Q < B32):=by
    unfold Hid
    rw [hQ,Nat.div_lt_iff_lt_mul hv0]
    have : (r + 1) * B32 <= v * B32:=Nat.mul_le_mul_right _ hr
    rw [Nat.add_mul] at this
    rw [Nat.mul_comm B32 v]
    omega
   clear hQ hR
   go_wp2_with (go_at_call 202;refine (HC.out _).mono ?_;rintro e w' ⟨rfl,q1,rfl⟩)
   obtain ⟨h1,h2,h3,h4⟩:=hH.out
   refine ⟨⟨p,R,Q :: q,by omega,rfl,rfl,hRv,?_,?_,?_,?_⟩,by simp [intOf] <;> omega⟩
   ·simp [h1];omega
   ·exact fun x hx=>by rcases List.mem_cons.1 hx with rfl | hx;exact HB.out;exact h2 x hx
   ·rw [ztx hv0 p l HP.out h3 hr,<- H1.out,<- HQ.out,<- HR.out,qx]
   ·rw [<- zad HP.out];exact (h4.drewN q1).store (by omega) Q
set_option maxHeartbeats 400000 in
theorem xh (r : Int) (w : World) :
  Calls Tryz.prog 183 #[.int .i64 r] w fun e w'=>e = .returned (.bool (decide (2 <= r /\ r <= 36))) /\ w' = w:=by
 by_cases h1 : 2 <= r
 ·have e1 : decide ((2 : Int) <= r) = true := by simp [h1]
  go_enter Tryz.func183,Tryz.ntmps183
  go_wp2
  go_ret
  exact ⟨zax (by simp [h1]),rfl⟩
 ·have e1 : decide ((2 : Int) <= r) = false := by simp; omega
  go_enter Tryz.func183,Tryz.ntmps183
  go_wp2
  go_ret
  exact ⟨zax (by simp [h1]),rfl⟩
def dgt (c : Nat) : Nat:=if 48 <= c /\ c <= 57 then c - 48 else if 97 <= c /\ c <= 122 then c - 87 else if 65 <= c /\ c <= 90 then c - 55 else 36
theorem zkb (c : Nat) : dgt c <= 36:=by unfold dgt;split <;>(try split) <;>(try split) <;> omega
set_option maxHeartbeats 800000 in
theorem zfd (c : Nat) (hc : c < 256) (w : World) :
  Calls Tryz.prog 215 #[.int .u8 c] w fun e w'=>e = .returned (.int .i64 (dgt c)) /\ w' = w:=by
 by_cases a1 : 48 <= c /\ c <= 57
 ·obtain ⟨a, b⟩ := a1
  have HV : Hid (dgt c = c - 48):=by unfold Hid dgt;rw [if_pos ⟨a,b⟩]
  go_enter Tryz.func215,Tryz.ntmps215
  go_wp2
  go_ret
  exact ⟨zac (by rw [HV.out];omega),rfl⟩
 ·by_cases a2 : 97 <= c /\ c <= 122
  ·obtain ⟨a, b⟩ := a2
   have HV : Hid (dgt c = c - 87):=by unfold Hid dgt;rw [if_neg a1,if_pos ⟨a,b⟩]
   clear a1
   go_enter Tryz.func215,Tryz.ntmps215
   go_wp2
   go_ret
   exact ⟨zac (by rw [HV.out];omega),rfl⟩
  ·by_cases a3 : 65 <= c /\ c <= 90
   ·obtain ⟨a, b⟩ := a3
    have HV : Hid (dgt c = c - 55):=by unfold Hid dgt;rw [if_neg a1,if_neg a2,if_pos ⟨a,b⟩]
    clear a1 a2
    go_enter Tryz.func215,Tryz.ntmps215
    go_wp2
    go_ret
    exact ⟨zac (by rw [HV.out];omega),rfl⟩
   ·have HV : Hid (dgt c = 36) := by unfold Hid dgt; rw [if_neg a1, if_neg a2, if_neg a3]
    have hr : c < 48 \/ (57 < c /\ c < 65) \/ (90 < c /\ c < 97) \/ 122 < c:=by omega
    clear a1 a2 a3
    rcases hr with h | ⟨h,h'⟩ | ⟨h,h'⟩ | h
    all_goals
     go_enter Tryz.func215,Tryz.ntmps215
     go_wp2
     go_ret
     exact ⟨zac (by rw [HV.out];rfl),rfl⟩
theorem zty {B f vq P vt d x cc : Nat} (h : vq + P * cc = vt * f + d) : vq + P * ((x * f + cc) % B) + P * B * ((x * f + cc) / B) = (vt + P * x) * f + d:=by
 have h1:=Nat.div_add_mod (x * f + cc) B
 have h2 : P * ((x * f + cc) % B) + P * B * ((x * f + cc) / B) = P * (x * f + cc):=by
  rw [Nat.mul_assoc,<- Nat.mul_add,Nat.add_comm ((x * f + cc) % B),h1]
 rw [Nat.add_assoc,h2,Nat.mul_add,Nat.add_mul,Nat.mul_assoc P x f]
 omega
theorem q9 {q l : List Nat} {m x : Nat} (hq : q.length = m) (hm : m < l.length) : (q ++ l.drop m).set m x = q ++ [x] ++ l.drop (m + 1):=by
 rw [f9 l m hm,List.set_append,if_neg (by omega),hq,Nat.sub_self]
 simp
set_option maxHeartbeats 1000000 in
theorem zkc (g o n cap : Nat) (cur : Array Value) (l : List Nat) (f d : Nat) (w : World) (W : Win .u32 163 w g o n cur l) (hdg : Dg B32 l) (hn : n <= maxLen) (hf : f < B32) (hd : d < B32) :
  Calls Tryz.prog 216 #[.slice (some ⟨g,o,none⟩) n cap,.int .u32 f,.int .u32 d] w fun e w'=>∃ l' c,e = .returned (.int .u32 (c : Nat)) /\ Onto .u32 163 g o n w w' cur l' /\ Dg B32 l' /\ c < B32 /\ val B32 l' + B32 ^ n * c = val B32 l * f + d:=by
 have HW:=hid W
 have HD:=hid hdg
 have HL:=hid W.len
 unfold maxLen at hn
 unfold B32 at hf hd
 clear W hdg
 go_enter Tryz.func216,Tryz.ntmps216
 go_wp2
 go_loopw [7,8,9,10,15] (fun c _ _ _ i wr=>∃ m : Nat,∃ cc : Nat,∃ q : List Nat,m <= n /\ i = .int .i64 m /\ c = .int .u64 cc /\ cc < 4294967296 /\ Hid (q.length = m /\ Dg B32 q /\ val B32 q + B32 ^ m * cc = val B32 (l.take m) * f + d /\ Onto .u32 163 g o n w wr cur (q ++ l.drop m))) (fun _ _ _ _ i _=>n - (intOf i).toNat)
 case atStart=>exact ⟨0,d,[],Nat.zero_le _,rfl,rfl,hd,rfl,Dg.nil _,by simp [val],by simpa using HW.out.onto⟩
 case round =>
  obtain ⟨m,cc,q,hm,rfl,rfl,hcc,hI⟩:=hrel
  by_cases hlt : m < n
  ·obtain ⟨x, hx⟩ : ∃ x, x = l.getD m 0 := ⟨_, rfl⟩
   have hll : m < l.length:=by rw [HL.out];exact hlt
   have hxb : x < 4294967296:=by rw [hx];exact HD.out.getD _ hll
   have hc : wr.cell? ⟨g,o + m,none⟩ = some (.int .u32 x):=by
    have:=hI.out.2.2.2.cell (i:=m) hlt
    rw [List.getD_eq_getElem?_getD,List.getElem?_append_right (by rw [hI.out.1];omega),hI.out.1,Nat.sub_self,List.getElem?_drop,Nat.add_zero,<- List.getD_eq_getElem?_getD,<- hx] at this
    exact this
   have hfz : wr.frozen? ⟨g,o + m,none⟩ = false:=hI.out.2.2.2.frozen _
   have HX:=hid hx
   have HLL:=hid hll
   clear hx hll
   have hb : x * f + cc <= 18446744073709551615:=by
    have : x * f <= 4294967295 * 4294967295:=Nat.mul_le_mul (by omega) (by omega)
    omega
   obtain ⟨t,ht⟩ : ∃ t,t = x * f + cc:=⟨_,rfl⟩
   have HT:=hid ht
   clear ht
   go_wp2
   obtain ⟨h1,h2,h3,h4⟩:=hI.out
   have e1 : ((x : Int) * f + cc) / 4294967296 = ((t / 4294967296 : Nat) : Int):=by rw [HT.out];omega
   have e2 : ((x : Int) * f + cc) % 4294967296 = ((t % 4294967296 : Nat) : Int):=by rw [HT.out];omega
   rw [e1,e2]
   refine ⟨⟨m + 1,t / 4294967296,q ++ [t % 4294967296],by omega,by go_num,rfl,?_,?_,?_,?_,?_⟩,by simp [intOf];omega⟩
   ·rw [HT.out];omega
   ·simp [h1]
   ·exact h2.append (Dg.one (Nat.mod_lt _ (by decide)))
   ·rw [xv, h1, qa B32 l m HLL.out, <- HX.out, HT.out, Nat.pow_succ]
    exact zty h3
   ·rw [<- q9 h1 HLL.out]
    exact h4.store hlt _
  ·obtain rfl : m = n := by omega
   go_wp2
   go_ret
   obtain ⟨h1,h2,h3,h4⟩:=hI.out
   refine ⟨q,cc,rfl,?_,h2,hcc,?_⟩
   ·rw [List.drop_eq_nil_of_le (by rw [HL.out];omega),List.append_nil] at h4;exact h4
   ·rw [List.take_of_length_le (by rw [HL.out];omega)] at h3;exact h3
def bs (s : ByteArray) : List Nat:=s.data.toList.map UInt8.toNat
theorem zl (s : ByteArray) : (bs s).length = s.size:=by unfold bs;rw [List.length_map];rfl
theorem zbp (s : ByteArray) (k : Nat) (h : k < s.size) : (bs s).getD k 0 = (s[k]'h).toNat:=by
 unfold bs
 rw [List.getD_eq_getElem?_getD,List.getElem?_map,List.getElem?_eq_getElem (show k < s.data.toList.length from h)]
 rfl
theorem zqx (s : ByteArray) (a : Nat) : bs (s.extract a s.size) = (bs s).drop a:=by
 unfold bs
 rw [Lib.extract_data,List.take_of_length_le (by rw [List.length_drop];exact Nat.le_refl _),List.map_drop]
theorem qh (s : ByteArray) : s.toList.isEmpty = decide (s.size = 0):=by
 rw [Lib.toList_data]
 by_cases h : s.size = 0
 ·have : s.data.toList = [] := List.length_eq_zero_iff.1 h
  rw [this];simp [h]
 ·have : s.data.toList ≠ [] := fun e => h (by show s.data.toList.length = 0; rw [e]; rfl)
  simp only [h,decide_false]
  cases hl : s.data.toList with
  | nil=>exact absurd hl this
  | cons=>rfl
set_option maxHeartbeats 400000 in
theorem zcq (ao : Option Addr) (cap : Nat) (f d : Nat) (w : World) (hf : f < B32) (hd : d < B32) :
  Calls Tryz.prog 216 #[.slice ao 0 cap,.int .u32 f,.int .u32 d] w fun e w'=>e = .returned (.int .u32 (d : Nat)) /\ w' = w:=by
 unfold B32 at hf hd
 go_enter Tryz.func216,Tryz.ntmps216
 go_wp2
 go_loop [7,15] (fun c i=>c = .int .u64 d /\ i = .int .i64 0) (fun _ _=>0)
 case atStart=>exact ⟨rfl,rfl⟩
 case round =>
  obtain ⟨rfl,rfl⟩:=hrel
  go_wp2
  go_ret
  exact ⟨rfl,rfl⟩
def cutS : List Nat -> Bool × List Nat
 | []=>(false,[])
 | c :: r=>if c = 43 \/ c = 45 then (decide (c = 45),r) else (false,c :: r)
theorem zyt (l : List Nat) : (cutS l).2.length <= l.length:=by
 cases l with
 | nil=>simp [cutS]
 | cons c r=>by_cases h : c = 43 \/ c = 45 <;> simp [cutS,h]
set_option maxHeartbeats 800000 in
theorem zmy (s : ByteArray) (w : World) (hs : s.size <= maxLen) :
  Calls Tryz.prog 208 #[.string s] w fun e w'=>∃ t,e = .returned (.tuple #[.bool (cutS (bs s)).1,.string t]) /\ bs t = (cutS (bs s)).2 /\ Below w.heap.size w w':=by
 unfold maxLen at hs
 by_cases h0 : s.size = 0
 ·have hem : s.toList.isEmpty = true := by rw [qh]; simp [h0]
  have hnil : bs s = []:=List.length_eq_zero_iff.1 (by rw [zl];exact h0)
  have HN:=hid hnil
  clear hnil
  go_enter Tryz.func208,Tryz.ntmps208
  go_wp2
  go_ret2
  rw [HN.out]
  exact ⟨s,rfl,by rw [HN.out];rfl,Below.refl _ _⟩
 ·have hem : s.toList.isEmpty = false := by rw [qh]; simp [h0]
  have hp : 0 < s.size:=by omega
  have hc0:=zbp s 0 hp
  obtain ⟨c,r,hcr⟩ : ∃ c r,bs s = c :: r:=by
   cases h : bs s with
   | nil=>rw [<- zl,h] at hp;simp at hp
   | cons c r=>exact ⟨c,r,rfl⟩
  have hcc : c = (s[0]'hp).toNat:=by rw [<- hc0,hcr];rfl
  have HX : Hid (bs (s.extract 1 s.size) = r):=by unfold Hid;rw [zqx,hcr];rfl
  have HC:=hid hcr
  clear hc0 hcr
  by_cases h1 : c = 43
  ·have e1 : (((s[0]'hp).toNat : Int) == 43) = true := by rw [<- hcc, h1]; rfl
   have e2 : (((s[0]'hp).toNat : Int) == 45) = false:=by rw [<- hcc,h1];rfl
   have H1:=hid h1
   clear h1 hcc
   go_enter Tryz.func208,Tryz.ntmps208
   go_wp2
   go_quiet (fail)
   go_wp2
   go_ret2
   rw [HC.out,H1.out]
   exact ⟨s.extract 1 s.size,rfl,by rw [HX.out];rfl,Bd _ _⟩
  ·by_cases h2 : c = 45
   ·have e1 : (((s[0]'hp).toNat : Int) == 43) = false := by rw [<- hcc, h2]; rfl
    have e2 : (((s[0]'hp).toNat : Int) == 45) = true:=by rw [<- hcc,h2];rfl
    have H2:=hid h2
    clear h1 h2 hcc
    go_enter Tryz.func208,Tryz.ntmps208
    go_wp2
    go_quiet (fail)
    go_wp2
    go_ret2
    rw [HC.out,H2.out]
    exact ⟨s.extract 1 s.size,rfl,by rw [HX.out];rfl,Bd _ _⟩
   ·have e1 : (((s[0]'hp).toNat : Int) == 43) = false := by rw [<- hcc]; simp; omega
    have e2 : (((s[0]'hp).toNat : Int) == 45) = false:=by rw [<- hcc];simp;omega
    have H2 : Hid (cutS (c :: r) = (false,c :: r)):=by simp [Hid,cutS,h1,h2]
    clear h1 h2 hcc
    go_enter Tryz.func208,Tryz.ntmps208
    go_wp2
    go_ret2
    rw [HC.out,H2.out]
    exact ⟨s,rfl,HC.out,Below.refl _ _⟩
set_option maxHeartbeats 800000 in
theorem zii (s : ByteArray) (radix : Nat) (w : World) (hs : s.size <= maxLen) (hr : radix <= 36) :
  Calls Tryz.prog 209 #[.string s,.int .i64 radix] w fun e w'=>e = .returned (.bool ((bs s).all (fun c=>decide (dgt c < radix)) && decide (bs s ≠ []))) /\ w' = w:=by
 unfold maxLen at hs
 go_enter Tryz.func209,Tryz.ntmps209
 go_wp2
 go_loop [5] (fun i=>∃ k : Nat,k <= s.size /\ i = .int .i64 k /\ Hid (∀ j,j < k -> dgt ((bs s).getD j 0) < radix)) (fun i=>s.size - (intOf i).toNat)
 case atStart=>exact ⟨0,Nat.zero_le _,rfl,fun j hj=>absurd hj (Nat.not_lt_zero _)⟩
 case round =>
  obtain ⟨k,hk,rfl,hI⟩:=hrel
  by_cases hlt : k < s.size
  ·have hd := zbp s k hlt
   obtain ⟨d,hdd⟩ : ∃ d,d = dgt (s[k]'hlt).toNat:=⟨_,rfl⟩
   have hd36 : d <= 36:=by rw [hdd];exact zkb _
   have HC : Hid (∀ wx,Calls Tryz.prog 215 #[.int .u8 ((s[k]'hlt).toNat : Nat)] wx fun e w'=>e = .returned (.int .i64 d) /\ w' = wx):=fun wx=>by rw [hdd];exact zfd _ (s[k]'hlt).toNat_lt wx
   have HD : Hid (d = dgt ((bs s).getD k 0)):=by unfold Hid;rw [hd,hdd]
   clear hdd hd
   by_cases hdr : d < radix
   ·go_wp2_with (go_at_call 215; refine (HC.out _).mono ?_; rintro e w' ⟨rfl, rfl⟩)
    go_round
    case rel=>exact ⟨k + 1,by omega,by go_num,by
     intro j hj
     by_cases hjk : j < k
     ·exact hI.out j hjk
     ·obtain rfl : j = k := by omega
      rw [<- HD.out];exact hdr⟩
    case measure=>simp [intOf];omega
   ·go_wp2_with (go_at_call 215; refine (HC.out _).mono ?_; rintro e w' ⟨rfl, rfl⟩)
    go_ret
    refine ⟨zax ?_,rfl⟩
    symm
    rw [Bool.and_eq_false_iff]
    left
    rw [List.all_eq_false]
    exact ⟨(bs s).getD k 0,zeo (by rw [zl];exact hlt),by simp;rw [<- List.getD_eq_getElem?_getD,<- HD.out];omega⟩
  ·obtain rfl : k = s.size := by omega
   have hem:=qh s
   have HE : Hid (decide (bs s = []) = decide (s.size = 0)):=by
    unfold Hid
    rw [decide_eq_decide,<- zl];exact List.length_eq_zero_iff.symm
   have HA : Hid ((bs s).all (fun c=>decide (dgt c < radix)) = true):=by
    unfold Hid
    rw [List.all_eq_true]
    intro x hx
    obtain ⟨j,hj,rfl⟩:=List.mem_iff_getElem.1 hx
    have:=hI.out j (by rw [<- zl];exact hj)
    rw [List.getD_eq_getElem?_getD,List.getElem?_eq_getElem hj] at this
    simpa using this
   go_wp2
   go_ret
   refine ⟨zax ?_,rfl⟩
   rw [HA.out,decide_eq_emptyBytes,qh]
   simp only [ne_eq,decide_not,HE.out,Bool.true_and]
def hv (radix : Nat) (l : List Nat) : Nat:=l.foldl (fun a c=>a * radix + dgt c) 0
theorem ztz (radix : Nat) (l : List Nat) (c : Nat) : hv radix (l ++ [c]) = hv radix l * radix + dgt c:=by simp [hv]
theorem kq (radix : Nat) (l : List Nat) (k : Nat) (h : k < l.length) : hv radix (l.take (k + 1)) = hv radix (l.take k) * radix + dgt (l.getD k 0):=by
 rw [f8 l k h,ztz]
theorem zfe (radix : Nat) (hr : 1 <= radix) (l : List Nat) : ∀ k j,k + j <= l.length -> hv radix (l.take k) <= hv radix (l.take (k + j))
 | k,0,_=>Nat.le_refl _
 | k,j + 1,h=>by
  have ih:=zfe radix hr l k j (by omega)
  rw [<- Nat.add_assoc,kq radix l (k + j) (by omega)]
  have : hv radix (l.take (k + j)) * 1 <= hv radix (l.take (k + j)) * radix:=Nat.mul_le_mul_left _ hr
  omega
theorem zou {B : Nat} {l l' : List Nat} (hB : 1 < B) (hl : l.length = l'.length) (ht : Tr l) (hd : Dg B l') (h : val B l <= val B l') : Tr l':=by
 by_cases h0 : l' = []
 ·exact .inl h0
 ·refine .inr fun hz => ?_
  have hn : 0 < l'.length:=List.length_pos_iff.2 h0
  have h1:=ht.pos (B:=B) (by omega) (by intro e;rw [e] at hl;simp at hl;omega)
  have e1 : val B l' = val B (l'.take (l'.length - 1)):=by
   have h2:=gz B l' (l'.length - 1) (by omega) hz
   rw [show l'.length - 1 + 1 = l'.length by omega,List.take_of_length_le (Nat.le_refl _)] at h2
   exact h2
  have h3:=zaa (hd.take (l'.length - 1))
  rw [List.length_take,Nat.min_eq_left (by omega),<- e1,<- hl] at h3
  omega
theorem zff {l : List Nat} {c : Nat} (h : c ≠ 0) : Tr (l ++ [c]):=.inr (by rw [zbo (by simp)];exact h)
theorem zfy1 {l : List Nat} {c v : Nat} (hl : l.length = 40) (hc : c ≠ 0) (h : val B32 l + B32 ^ 40 * c = v) : Big v:=by
 unfold Big
 have : B32 ^ 40 * 1 <= B32 ^ 40 * c:=Nat.mul_le_mul_left _ (by omega)
 omega
def zct1 (w : World) (v : Nat) (e : Ending) (w' : World) : Prop :=
 ((¬ Big v /\ ∃ ao n cap r,e = .returned (.tuple #[.slice ao n cap,.bool true]) /\ Row .u32 B32 w' ao n cap r /\ Tr r /\ val B32 r = v /\ n <= 40) \/ (Big v /\ e = .returned (.tuple #[.slice none 0 0,.bool false]))) /\ Below w.heap.size w w'
set_option maxHeartbeats 2000000 in
theorem zua (s : ByteArray) (radix : Nat) (w : World) (hs : s.size <= maxLen) (hr1 : 2 <= radix) (hr2 : radix <= 36) (hd : ∀ j,j < s.size -> dgt ((bs s).getD j 0) < radix) :
  Calls Tryz.prog 210 #[.string s,.int .i64 radix] w (zct1 w (hv radix (bs s))):=by
 unfold maxLen at hs
 have HD:=hid hd
 clear hd
 have hrb : radix < 4294967296:=by omega
 go_enter Tryz.func210,Tryz.ntmps210
 go_wp2
 go_loopw [6,7,8] (fun v i _ wr=>∃ k n : Nat,∃ r : List Nat,k <= s.size /\ i = .int .i64 k /\ n <= 40 /\ Hid (wr.ownsRow w.heap.size 163 1 v n (cs .u32 r) /\ Dg B32 r /\ Tr r /\ val B32 r = hv radix ((bs s).take k) /\ Below w.heap.size w wr)) (fun _ i _ _=>s.size - (intOf i).toNat)
 case atStart=>exact ⟨0,0,[],Nat.zero_le _,rfl,by omega,World.ownsRow_nil _ _ _ _,Dg.nil _,Tr.nil,rfl,Below.refl _ _⟩
 case round =>
  obtain ⟨k,n,r,hk,rfl,hn,hI⟩:=hrel
  have hlr : r.length = n:=by have:=hI.out.1.1;rw [qz] at this;omega
  have HLR:=hid hlr
  clear hlr
  by_cases hlt : k < s.size
  ·have hgk := zbp s k hlt
   obtain ⟨d,hdd⟩ : ∃ d,d = dgt (s[k]'hlt).toNat:=⟨_,rfl⟩
   have hd36 : d <= 36:=by rw [hdd];exact zkb _
   have HC : Hid (∀ wx,Calls Tryz.prog 215 #[.int .u8 ((s[k]'hlt).toNat : Nat)] wx fun e w'=>e = .returned (.int .i64 d) /\ w' = wx):=fun wx=>by rw [hdd];exact zfd _ (s[k]'hlt).toNat_lt wx
   have HV : Hid (hv radix ((bs s).take (k + 1)) = val B32 r * radix + d):=by
    unfold Hid;rw [kq radix _ k (by rw [zl];exact hlt),hgk,<- hdd,hI.out.2.2.2.1]
   clear hdd hgk
   have hsz : Hid (w.heap.size <= wr.heap.size):=hI.out.2.2.2.2.size
   by_cases hn0 : n = 0
   ·subst hn0
    have hrn : r = []:=List.length_eq_zero_iff.1 HLR.out
    subst hrn
    obtain ⟨ao,cap,hu,hO⟩:=x5 hI.out.1 hI.out.2.1
    subst hu
    have HB:=hid hI.out.2.2.2.2
    have HOW:=hid hI.out.1
    clear hO hI
    by_cases hd0 : d = 0
    ·subst hd0
     go_wp2_with (first | (go_at_call 215;refine (HC.out _).mono ?_;rintro e wx ⟨rfl,hwx⟩;rw [hwx];clear hwx) | (go_at_call 216;refine (zcq ao cap radix 0 _ hrb (by decide)).mono ?_;rintro e wx ⟨rfl,hwx⟩;rw [hwx];clear hwx))
     go_roundw
     case rel=>exact ⟨k + 1,0,[],by omega,by go_num,by omega,HOW.out,Dg.nil _,Tr.nil,by rw [HV.out];simp [val],HB.out⟩
     case measure=>simp [intOf];omega
    ·have e0 : ((d : Int) == 0) = false := by simp; omega
     go_wp2_with (first | (go_at_call 215;refine (HC.out _).mono ?_;rintro e wx ⟨rfl,hwx⟩;rw [hwx];clear hwx) | (go_at_call 216;refine (zcq ao cap radix d _ hrb (by unfold B32;omega)).mono ?_;rintro e wx ⟨rfl,hwx⟩;rw [hwx];clear hwx) | (at_builtin;refine app1 rfl _ _ 102 rfl w.heap.size 163 .u32 4 (by decide) Tryz.underlying102 zer _ 0 [] rfl (HOW.out.alloc _) ⟨wr.heap.size,0,none⟩ 1 d rfl (yu _ _ _) (by omega) (by have:=hsz.out;simp;omega) ?_;intro g cap' w2 hown hbel))
     refine ⟨⟨k + 1,1,[d],by omega,by go_num,by omega,hown,Dg.one (by unfold B32;omega),zff (l:=[]) hd0,by rw [HV.out];simp [val],(HB.out.alloc hsz.out _).trans hbel⟩,by simp [intOf];omega⟩
   ·obtain ⟨g, cap, cur, hu, hg, hnc, hcm, hcs, hW⟩ := zay hI.out.1 (by omega)
    subst hu
    have hdgr:=hI.out.2.1
    have htr:=hI.out.2.2.1
    have HB:=hid hI.out.2.2.2.2
    have HM : Hid (∀ wx,wx = wr -> Calls Tryz.prog 216 #[.slice (some ⟨g,0,none⟩) n cap,.int .u32 radix,.int .u32 d] wx fun e w'=>∃ l' c,e = .returned (.int .u32 (c : Nat)) /\ Onto .u32 163 g 0 n wr w' cur l' /\ Dg B32 l' /\ c < B32 /\ val B32 l' + B32 ^ n * c = val B32 r * radix + d):=fun wx hwx=>by
     subst hwx;exact zkc g 0 n cap cur r radix d _ hW hdgr (by unfold maxLen;omega) hrb (by unfold B32;omega)
    have HTR:=hid htr
    have HG:=hid hg
    have HX:=hid (And.intro hnc (And.intro hcm hcs))
    have hcap2 : cap <= 9223372036854775807:=by unfold maxLen at hcm;omega
    clear hI hdgr htr hW hg hcm hcs
    go_wp2_with (go_at_call 215;refine (HC.out _).mono ?_;rintro e wx ⟨rfl,hwx⟩;rw [hwx];clear hwx)
    refine (HM.out _ rfl).mono ?_
    rintro e w1 ⟨l',c,rfl,hO,hd',hcb,hval⟩
    have hlen':=hO.len
    have HOW:=hid (zcp HG.out HX.out.1 HX.out.2.1 HX.out.2.2 hO)
    have HB1:=hid (HB.out.trans (hO.below HG.out))
    have HD':=hid hd'
    have HVAL:=hid hval
    have HL':=hid hlen'
    have hsz1 : Hid (w.heap.size <= w1.heap.size):=HB1.out.size
    unfold B32 at hcb
    clear hO hd' hval hlen'
    by_cases hc0 : c = 0
    ·subst hc0
     have HTR' : Hid (Tr l'):=by
      refine zou (B:=B32) (by decide) (by rw [HLR.out,HL'.out]) HTR.out HD'.out ?_
      have h1:=HVAL.out
      have h2 : val B32 r * 1 <= val B32 r * radix:=Nat.mul_le_mul_left _ (by omega)
      simp at h1
      omega
     go_wp2
     go_roundw
     case rel=>exact ⟨k + 1,n,l',by omega,by go_num,hn,HOW.out,HD'.out,HTR'.out,by rw [HV.out,<- HVAL.out];simp,HB1.out⟩
     case measure=>simp [intOf];omega
    ·have e0 : ((c : Int) == 0) = false := by simp; omega
     by_cases hn40 : n = 40
     ·subst hn40
      have HBIG : Hid (Big (hv radix (bs s))):=by
       have h1 : Big (hv radix ((bs s).take (k + 1))):=by rw [HV.out];exact zfy1 HL'.out hc0 HVAL.out
       have h2:=zfe radix (by omega) (bs s) (k + 1) (s.size - (k + 1)) (by rw [zl];omega)
       rw [show k + 1 + (s.size - (k + 1)) = s.size by omega,List.take_of_length_le (l:=bs s) (i:=s.size) (by rw [zl];exact Nat.le_refl _)] at h2
       unfold Hid Big at *
       omega
      go_wp2
      go_ret2
      exact ⟨.inr ⟨HBIG.out,rfl⟩,HB1.out⟩
     ·have e40 : ((n : Int) == 40) = false := by simp; omega
      go_wp2_with (at_builtin;refine app1 rfl _ _ 102 rfl w.heap.size 163 .u32 4 (by decide) Tryz.underlying102 zer _ n l' rfl (HOW.out.alloc _) ⟨w1.heap.size,0,none⟩ 1 c rfl (yu _ _ _) (by omega) (by have:=hsz1.out;simp;omega) ?_;intro g2 cap2 w2 hown hbel)
      refine ⟨⟨k + 1,n + 1,l' ++ [c],by omega,by go_num,by omega,hown,HD'.out.append (Dg.one (by unfold B32;omega)),zff hc0,?_,(HB1.out.alloc hsz1.out _).trans hbel⟩,by simp [intOf];omega⟩
      rw [HV.out,<- HVAL.out,xv,HL'.out]
  ·obtain rfl : k = s.size := by omega
   obtain ⟨ao,cap,hu,hO⟩:=x5 hI.out.1 hI.out.2.1
   subst hu
   have HO:=hid hO
   clear hO
   go_wp2
   go_ret2
   obtain ⟨_,h2,h3,h4,h5⟩:=hI.out
   rw [List.take_of_length_le (by rw [zl];exact Nat.le_refl _)] at h4
   exact ⟨.inl ⟨by rw [<- h4,<- zab h2 h3,HLR.out];exact hn,ao,n,cap,r,rfl,HO.out.row,h3,h4,hn⟩,h5⟩
def jl (radix : Int) (l : List Nat) : Bool:=l.all (fun c=>decide ((dgt c : Int) < radix)) && decide (l ≠ [])
def zkd (w : World) (s : List Nat) (radix : Int) (e : Ending) (w' : World) : Prop :=
 ∃ x en, e = .returned (.tuple #[x, .int .i64 en]) /\ Below w.heap.size w w' /\
  ((¬ (2 <= radix /\ radix <= 36) /\ x = .agg #[.bool false,.slice none 0 0] /\ en = 1) \/
   ((2 <= radix /\ radix <= 36) /\ jl radix (cutS s).2 = false /\ x = .agg #[.bool false,.slice none 0 0] /\ en = 12) \/
   ((2 <= radix /\ radix <= 36) /\ jl radix (cutS s).2 = true /\ Ans w' x en (cutS s).1 (hv radix.toNat (cutS s).2)))
set_option maxHeartbeats 1000000 in
theorem zke (s : ByteArray) (radix : Int) (w : World) (hs : s.size <= maxLen) :
  Calls Tryz.prog 197 #[.string s,.int .i64 radix] w (zkd w (bs s) radix):=by
 by_cases hr : 2 <= radix /\ radix <= 36
 ·obtain ⟨hr1, hr2⟩ := hr
  obtain ⟨rx,rfl⟩:=Int.eq_ofNat_of_zero_le (by omega : 0 <= radix)
  have HC : Hid (∀ wx,Calls Tryz.prog 183 #[.int .i64 rx] wx fun e w'=>e = .returned (.bool true) /\ w' = wx):=fun wx=>(xh rx wx).mono fun e w' ⟨h1,h2⟩=>⟨by rw [h1];simp;omega,h2⟩
  go_enter Tryz.func197,Tryz.ntmps197
  go_wp2_with fail
  refine (HC.out _).mono ?_
  rintro e wx ⟨rfl,hwx⟩
  rw [hwx]
  clear hwx
  go_wp2_with fail
  refine (zmy s _ hs).mono ?_
  rintro e w1 ⟨t,rfl,ht,hb1⟩
  have htl : t.size <= s.size:=by rw [<- zl,<- zl,ht];exact zyt _
  have X:=hid ((Box.new 104 w false none 0 0).on hb1)
  have HB1:=hid (Bt (Ba w (.cells #[.bool false,.slice none 0 0] 104)) hb1)
  obtain ⟨ng,hng⟩ : ∃ ng,ng = (cutS (bs s)).1:=⟨_,rfl⟩
  rw [<- hng]
  have HNG:=hid hng
  have HT:=hid ht
  have hts : t.size <= maxLen:=Nat.le_trans htl hs
  obtain ⟨ad,had⟩ : ∃ ad,ad = ((bs t).all (fun c=>decide (dgt c < rx)) && decide (bs t ≠ [])):=⟨_,rfl⟩
  have HAD : Hid (jl (rx : Int) (cutS (bs s)).2 = ad):=by
   unfold Hid jl
   rw [had,<- ht]
   simp
  have HAC : Hid (∀ wx,Calls Tryz.prog 209 #[.string t,.int .i64 rx] wx fun e w'=>e = .returned (.bool ad) /\ w' = wx):=fun wx=>by rw [had];exact zii t rx wx hts (by omega)
  have HAL : Hid (ad = true -> ∀ j,j < t.size -> dgt ((bs t).getD j 0) < rx):=by
   unfold Hid
   intro h j hj
   rw [had,Bool.and_eq_true,List.all_eq_true] at h
   have:=h.1 _ (zeo (l:=bs t) (k:=j) (by rw [zl];exact hj))
   simpa using this
  clear hng ht hb1 htl had
  go_wp2_with fail
  refine (HAC.out _).mono ?_
  rintro e wx2 ⟨rfl,hwx⟩
  rw [hwx]
  clear hwx
  obtain ⟨q0,q1⟩:=X.out.c
  obtain ⟨f0,f1⟩:=X.out.f
  cases ad
  ·go_wp2
   have y:=X.out.set2 false none 0 0
   obtain ⟨y0,y1⟩:=y.c
   exact bodyPost_ret (v:=.tuple #[.agg #[.bool false,.slice none 0 0],.int .i64 12]) (by simp [results,Tryz.results197,go_sem,y0,y1]) rfl ⟨_,_,rfl,(HB1.out.setCell (Nat.le_refl _) _).setCell (Nat.le_refl _) _,.inr (.inl ⟨⟨hr1,hr2⟩,HAD.out,rfl,rfl⟩)⟩
  ·clear q0 q1 f0 f1
   go_wp2_with fail
   refine (zua t rx w1 hts (by omega) (by omega) (HAL.out (by first | rfl | trivial))).mono ?_
   rintro e w2 ⟨hp,hb2⟩
   have X2:=hid (X.out.on hb2)
   have HB2:=hid (Bt HB1.out hb2)
   rw [HT.out] at hp
   rcases hp with ⟨hnb,ao,n,cap,r,rfl,hR,htr,hvr,hn⟩ | ⟨hbig,rfl⟩
   ·have HNB := hid hnb
    have HVR:=hid hvr
    have HRR:=hid hR
    clear hb2 hnb hvr hR htr
    go_wp2_with fail
    refine (zts ng ao n cap r w2 HRR.out).mono ?_
    rintro e w3 ⟨x,l,rfl,hI,htl,hvl,hll,hb3⟩
    obtain ⟨ax,nx,cx,sg,rfl,HSG,Rx⟩:=hI.open_
    have X3:=hid (X2.out.on hb3)
    obtain ⟨q0,q1⟩:=X3.out.c
    obtain ⟨f0,f1⟩:=X3.out.f
    have HB3:=hid (Bt HB2.out hb3)
    have HTL:=hid htl
    have HVL:=hid hvl
    have HRx:=hid Rx
    clear hI htl hvl hb3 Rx
    go_wp2
    have y:=X3.out.set2 sg ax nx cx
    obtain ⟨y0,y1⟩:=y.c
    refine bodyPost_ret (v:=.tuple #[.agg #[.bool sg,.slice ax nx cx],.int .i64 0]) (by simp [results,Tryz.results197,go_sem,y0,y1]) rfl ⟨_,_,rfl,(HB3.out.setCell (Nat.le_refl _) _).setCell (Nat.le_refl _) _,.inr (.inr ⟨⟨hr1,hr2⟩,HAD.out,.inl ⟨?_,rfl,l,⟨ax,nx,cx,?_,HRx.out.setBox2 X3.out _ _⟩,HTL.out,?_⟩⟩)⟩
    ·simpa using HNB.out
    ·rw [HSG.out,HNG.out]
    ·rw [HVL.out,HVR.out];simp
   ·obtain ⟨q0, q1⟩ := X2.out.c
    obtain ⟨f0,f1⟩:=X2.out.f
    have HBG:=hid hbig
    clear hb2 hbig
    go_wp2
    have y:=X2.out.set2 false none 0 0
    obtain ⟨y0,y1⟩:=y.c
    refine bodyPost_ret (v:=.tuple #[.agg #[.bool false,.slice none 0 0],.int .i64 10]) (by simp [results,Tryz.results197,go_sem,y0,y1]) rfl ⟨_,_,rfl,(HB2.out.setCell (Nat.le_refl _) _).setCell (Nat.le_refl _) _,.inr (.inr ⟨⟨hr1,hr2⟩,HAD.out,.inr ⟨?_,rfl,rfl⟩⟩)⟩
    simpa using HBG.out
 ·have HC : Hid (∀ wx, Calls Tryz.prog 183 #[.int .i64 radix] wx fun e w' => e = .returned (.bool false) /\ w' = wx) := fun wx => (xh radix wx).mono fun e w' ⟨h1, h2⟩ => ⟨by rw [h1]; simp; omega, h2⟩
  have HR:=hid hr
  clear hr
  go_enter Tryz.func197,Tryz.ntmps197
  go_wp2_with (go_at_call 183;refine (HC.out _).mono ?_;rintro e wx ⟨rfl,hwx⟩;rw [hwx];clear hwx)
  exact bodyPost_ret (v:=.tuple #[.agg #[.bool false,.slice none 0 0],.int .i64 1]) (by simp [results,Tryz.results197,go_sem]) rfl ⟨_,_,rfl,Ba _ _,.inl ⟨HR.out,rfl,rfl⟩⟩
end Go.Proofs.YticimejfjjmikaaGreatDoor
