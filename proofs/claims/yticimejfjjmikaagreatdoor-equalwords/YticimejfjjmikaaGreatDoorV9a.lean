import Derived.Test.YticimejfjjmikaaGreatDoorW36
import Derived.Test.YticimejfjjmikaaGreatDoorU0
import Derived.Deep.QuietTactic
import Derived.BigQuiet
set_option linter.unusedVariables false
set_option linter.unusedSimpArgs false
set_option maxRecDepth 100000
set_option maxHeartbeats 4000000
namespace Go.Proofs.YticimejfjjmikaaGreatDoor
open Go.RowKit
def isR (k x : Int) : Bool:=decide ((ofR x).1 = k)
def hasR (k x : Int) : Int:=if (ofR x).1 = k then (ofR x).2.1 else 0
def typR (x : Int) : Int:=if (ofR x).1 = 8 then (ofR x).2.2 else 0
theorem tup_no {k n t : Int} (h : rightB k n t = false) : Ending.returned (.tuple #[.int .u64 0,.bool false]) = Ending.returned (.tuple #[.int .u64 (wordR k n t),.bool (rightB k n t)]):=by
 unfold wordR;rw [h];rfl
theorem tup_yes {k n t x : Int} (h : rightB k n t = true) (hx : x = wrdB k n t) : Ending.returned (.tuple #[.int .u64 x,.bool true]) = Ending.returned (.tuple #[.int .u64 (wordR k n t),.bool (rightB k n t)]):=by
 unfold wordR;rw [h,hx];rfl
theorem raw_not {x k : Int} (hk : k ≠ 0) (h : (ofRaw x).1 ≠ k) : (ofR x).1 ≠ k:=by
 unfold ofR;split
 ·exact h
 ·exact fun e=>hk e.symm
theorem raw_bad {x k : Int} (hk : k ≠ 0) (h : rightB (ofRaw x).1 (ofRaw x).2.1 (ofRaw x).2.2 = false) : (ofR x).1 ≠ k:=by
 unfold ofR;rw [h];exact fun e=>hk e.symm
theorem raw_yes {x k n t : Int} (h : ofRaw x = (k,n,t)) (hr : rightB k n t = true) : ofR x = (k,n,t):=by
 unfold ofR;rw [h];simp only [hr,if_true]
theorem tell_no {x k : Int} (h : (ofR x).1 ≠ k) : Ending.returned (.tuple #[.int .i64 0,.bool false]) = Ending.returned (.tuple #[.int .i64 (hasR k x),.bool (isR k x)]):=by
 unfold hasR isR;rw [if_neg h,decide_eq_false h]
theorem tell_yes {x k n t : Int} (h : ofR x = (k,n,t)) : Ending.returned (.tuple #[.int .i64 n,.bool true]) = Ending.returned (.tuple #[.int .i64 (hasR k x),.bool (isR k x)]):=by
 unfold hasR isR;rw [h];simp
theorem tellh_no {x : Int} (h : (ofR x).1 ≠ 8) : Ending.returned (.tuple #[.int .i64 0,.int .i64 0,.bool false]) = Ending.returned (.tuple #[.int .i64 (typR x),.int .i64 (hasR 8 x),.bool (isR 8 x)]):=by
 unfold hasR isR typR;rw [if_neg h,if_neg h,decide_eq_false h]
theorem tellh_yes {x n t : Int} (h : ofR x = (8,n,t)) : Ending.returned (.tuple #[.int .i64 t,.int .i64 n,.bool true]) = Ending.returned (.tuple #[.int .i64 (typR x),.int .i64 (hasR 8 x),.bool (isR 8 x)]):=by
 unfold hasR isR typR;rw [h];simp
theorem iscount_any (n : Int) (w : World) : Calls Tryz.prog 194 #[.int .i64 n] w fun e w'=>e = .returned (.bool (decide (0 <= n) && decide (n <= 1073741824))) /\ w' = w:=by
 by_cases h1 : 0 <= n <;> by_cases h2 : n <= 1073741824 <;>
 ·go_enter Tryz.func194, Tryz.ntmps194
  go_wp2
  go_ret
  exact ⟨by simp [h1,h2],rfl⟩
theorem validrune_any (n : Int) (h1 : 0 <= n) (h2 : n <= 1114111) (w : World) : Calls Tryz.prog 192 #[.int .i32 n] w fun e w'=>e = .returned (.bool (decide (n < 55296) || decide (57343 < n))) /\ w' = w:=by
 by_cases h3 : n < 55296 <;> by_cases h4 : 57343 < n <;>
 ·go_enter Tryz.func192, Tryz.ntmps192
  go_wp2
  go_ret
  exact ⟨by simp [h3,h4],rfl⟩
theorem isletter_any (n : Int) (w : World) : Calls Tryz.prog 163 #[.int .i64 n] w fun e w'=>e = .returned (.bool (ltrB n)) /\ w' = w:=by
 unfold ltrB
 by_cases h1 : 0 <= n <;> by_cases h2 : n <= 1114111
 ·have HV := hid (fun w => validrune_any n h1 h2 w)
  go_enter Tryz.func163,Tryz.ntmps163
  go_wp2_with (go_at_call 192;refine (HV.out _).mono ?_;rintro e w9 ⟨rfl,hw9⟩;rw [hw9])
  all_goals go_ret
  all_goals exact ⟨by simp [h1,h2],rfl⟩
 all_goals
 ·go_enter Tryz.func163, Tryz.ntmps163
  go_wp2
  go_ret
  refine ⟨?_,rfl⟩
  first
  | simp [h1];omega
  | simp [h2];omega
theorem or_kind {n c : Int} (h0 : 0 <= n) (h1 : n <= 1073741824) (hc : 0 <= c /\ c < 256) : bits .or .u64 (n * 256) c = n * 256 + c:=or_low8 (by unfold U64;omega) (by omega) hc
theorem ofkind_any (n c : Int) (h0 : 0 <= n) (h1 : n <= 1073741824) (hc : 0 <= c /\ c < 256) (w : World) : Calls Tryz.prog 199 #[.int .u64 c,.int .i64 n] w fun e w'=>e = .returned (.int .u64 (n * 256 + c)) /\ w' = w:=by
 have e1:=or_kind h0 h1 hc
 go_enter Tryz.func199,Tryz.ntmps199
 go_wp2
 go_ret
 exact ⟨rfl,rfl⟩
theorem counted_any (n k c : Int) (hk : k = 5 \/ k = 6 \/ k = 7) (hc : c = (k + 2) * 8 + 2) (w : World) : Calls Tryz.prog 212 #[.int .u64 c,.int .i64 n] w fun e w'=>e = .returned (.tuple #[.int .u64 (wordR k n 0),.bool (rightB k n 0)]) /\ w' = w:=by
 have HC:=hid (fun w=>iscount_any n w)
 have hcr : 0 <= c /\ c < 256:=by omega
 have hr : rightB k n 0 = (decide (0 <= n) && decide (n <= 1073741824)):=by
  unfold rightB;rcases hk with rfl | rfl | rfl <;> simp
 have HR:=hid hr
 clear hr
 have HCC:=hid hc
 have HKK:=hid hk
 clear hc hk
 by_cases h1 : 0 <= n <;> by_cases h2 : n <= 1073741824
 ·have HK := hid (fun w => ofkind_any n c h1 h2 hcr w)
  go_enter Tryz.func212,Tryz.ntmps212
  go_wp2_with (first
   | (go_at_call 194;refine (HC.out _).mono ?_;rintro e w9 ⟨rfl,hw9⟩;rw [hw9];simp only [h1,h2,decide_true,Bool.and_true])
   | (go_at_call 199;refine (HK.out _).mono ?_;rintro e w9 ⟨rfl,hw9⟩;rw [hw9]))
  all_goals go_ret2
  all_goals exact ⟨tup_yes (by rw [HR.out];simp [h1,h2]) (by have hc:=HCC.out;have hk:=HKK.out;unfold wrdB;rw [if_neg (by omega),if_neg (by omega),if_neg (by omega),if_neg (by omega)];omega),rfl⟩
 all_goals
 ·have hf : (decide (0 <= n) && decide (n <= 1073741824)) = false := by simp; omega
  have HF:=hid hf
  clear hf
  go_enter Tryz.func212,Tryz.ntmps212
  go_wp2_with (go_at_call 194;refine (HC.out _).mono ?_;rintro e w9 ⟨rfl,hw9⟩;rw [hw9,HF.out])
  all_goals go_ret2
  all_goals exact ⟨tup_no (by rw [HR.out,HF.out]),rfl⟩
theorem char_any (n : Int) (hn : Z64 n) (w : World) : Calls Tryz.prog 176 #[.int .i64 n] w fun e w'=>e = .returned (.tuple #[.int .u64 (wordR 4 n 0),.bool (rightB 4 n 0)]) /\ w' = w:=by
 have HC:=hid (fun w=>isletter_any n w)
 obtain ⟨b,hb⟩ : ∃ b,b = ltrB n:=⟨_,rfl⟩
 rw [<- hb] at HC
 have hr : rightB 4 n 0 = b:=by
  unfold rightB;rw [<- hb]
  cases b
  ·simp
  ·have := ltrB_rng hb.symm
   simp;omega
 have HR:=hid hr
 cases b
 ·clear hr hb
  go_enter Tryz.func176,Tryz.ntmps176
  go_wp2_with (go_at_call 163;refine (HC.out _).mono ?_;rintro e w9 ⟨rfl,hw9⟩;rw [hw9])
  all_goals go_ret2
  all_goals exact ⟨tup_no HR.out,rfl⟩
 ·have hl := ltrB_rng hb.symm
  clear hr hb
  have HK:=hid (fun w=>ofkind_any n 50 (by omega) (by omega) (by omega) w)
  go_enter Tryz.func176,Tryz.ntmps176
  go_wp2_with (first
  | (go_at_call 163;refine (HC.out _).mono ?_;rintro e w9 ⟨rfl,hw9⟩;rw [hw9])
  | (go_at_call 199;refine (HK.out _).mono ?_;rintro e w9 ⟨rfl,hw9⟩;rw [hw9]))
  all_goals go_ret2
  all_goals exact ⟨tup_yes HR.out (by simp [wrdB];omega),rfl⟩
theorem name_any (n : Int) (hn : Z64 n) (w : World) : Calls Tryz.prog 200 #[.int .i64 n] w fun e w'=>e = .returned (.tuple #[.int .u64 (wordR 5 n 0),.bool (rightB 5 n 0)]) /\ w' = w:=by
 have HC:=hid (fun w=>counted_any n 5 58 (by omega) (by omega) w)
 go_enter Tryz.func200,Tryz.ntmps200
 go_wp2_with (go_at_call 212;refine (HC.out _).mono ?_;rintro e w9 ⟨rfl,hw9⟩;rw [hw9])
 all_goals go_ret2
 all_goals exact ⟨rfl,rfl⟩
theorem fix_any (n : Int) (hn : Z64 n) (w : World) : Calls Tryz.prog 182 #[.int .i64 n] w fun e w'=>e = .returned (.tuple #[.int .u64 (wordR 1 n 0),.bool (rightB 1 n 0)]) /\ w' = w:=by
 unfold Z64 at hn
 by_cases h : -1152921504606846976 <= n /\ n < 1152921504606846976
 ·have hr : Hid (rightB 1 n 0 = true) := by unfold Hid rightB; simp [h.1, h.2]
  have w1 : IntKind.u64.wrap (IntKind.u64.wrap n * 8) = (n * 8) % 18446744073709551616:=by
   rw [IntKind.wrap_u64,IntKind.wrap_u64];omega
  have e0 : bits .or .u64 ((n * 8) % 18446744073709551616) 0 = (n * 8) % 18446744073709551616:=by
   have:=or_low3 (x:=(n * 8) % 18446744073709551616) (b:=0) (by unfold U64;omega) (by omega) (by omega)
   rw [this];exact Int.add_zero _
  go_enter Tryz.func182,Tryz.ntmps182
  go_wp2
  all_goals go_ret2
  all_goals exact ⟨tup_yes hr.out (by first | rfl | (show bits .or .u64 (IntKind.u64.wrap (IntKind.u64.wrap n * 8)) 0 = (n * 8) % 18446744073709551616;rw [w1,e0]) | (show bits .or .u64 ((n * 8) % 18446744073709551616) 0 = (n * 8) % 18446744073709551616;rw [e0])),rfl⟩
 ·have hr : Hid (rightB 1 n 0 = false) := by unfold Hid rightB; simp; omega
  go_enter Tryz.func182,Tryz.ntmps182
  go_wp2
  all_goals go_ret2
  all_goals first
  | exact ⟨tup_no hr.out,rfl⟩
  | (exfalso;omega)
theorem ptr_any (n : Int) (hn : Z64 n) (w : World) : Calls Tryz.prog 111 #[.int .i64 n] w fun e w'=>e = .returned (.tuple #[.int .u64 (wordR 2 n 0),.bool (rightB 2 n 0)]) /\ w' = w:=by
 unfold Z64 at hn
 by_cases h : 0 <= n /\ n <= 1099511627776
 ·have hr : Hid (rightB 2 n 0 = true) := by unfold Hid rightB; simp [h.1, h.2]
  have e0 : bits .or .u64 (n * 8) 1 = n * 8 + 1:=or_low3 (by unfold U64;omega) (by omega) (by omega)
  obtain ⟨h1,h2⟩:=h
  go_enter Tryz.func111,Tryz.ntmps111
  go_wp2
  all_goals go_ret2
  all_goals first
  | exact ⟨tup_yes hr.out rfl,rfl⟩
  | (exfalso;omega)
 ·have hr : Hid (rightB 2 n 0 = false) := by unfold Hid rightB; simp; omega
  go_enter Tryz.func111,Tryz.ntmps111
  go_wp2
  all_goals go_ret2
  all_goals first
  | exact ⟨tup_no hr.out,rfl⟩
  | (exfalso;omega)
theorem head_any (n t : Int) (hn : Z64 n) (ht : Z64 t) (w : World) : Calls Tryz.prog 116 #[.int .i64 t,.int .i64 n] w fun e w'=>e = .returned (.tuple #[.int .u64 (wordR 8 n t),.bool (rightB 8 n t)]) /\ w' = w:=by
 unfold Z64 at hn ht
 by_cases h : (1 <= t /\ t <= 255) /\ 0 <= n /\ n <= 1099511627776
 ·have hr : Hid (rightB 8 n t = true) := by unfold Hid rightB; simp [h.1.1, h.1.2, h.2.1, h.2.2]
  have e0 : bits .or .u64 (n * 2048) (t * 8) = n * 2048 + t * 8:=or_low11 (by unfold U64;omega) (by omega) (by omega)
  have e1 : bits .or .u64 (n * 2048 + t * 8) 7 = n * 2048 + t * 8 + 7:=or_low3 (by unfold U64;omega) (by omega) (by omega)
  obtain ⟨⟨h1,h2⟩,h3,h4⟩:=h
  go_enter Tryz.func116,Tryz.ntmps116
  go_wp2
  all_goals go_ret2
  all_goals first
  | exact ⟨tup_yes hr.out rfl,rfl⟩
  | (exfalso;omega)
 ·have hr : Hid (rightB 8 n t = false) := by unfold Hid rightB; simp; omega
  go_enter Tryz.func116,Tryz.ntmps116
  go_wp2
  all_goals go_ret2
  all_goals first
  | exact ⟨tup_no hr.out,rfl⟩
  | (exfalso;omega)
theorem int_any (x : Int) (hx : U64 x) (w : World) : Calls Tryz.prog 128 #[.int .u64 x] w fun e w'=>e = .returned (.tuple #[.int .i64 (hasR 1 x),.bool (isR 1 x)]) /\ w' = w:=by
 have e0:=and7 hx
 unfold U64 at hx
 by_cases h : x % 8 = 0
 ·have e1 : wrap64 x / 8 = sgnW x / 8 := by unfold wrap64 sgnW; split <;> omega
  have ho : Hid (ofR x = (1,wrap64 x / 8,0)):=by
   refine raw_yes (by unfold ofRaw;rw [if_pos h,e1]) ?_
   unfold rightB;rw [e1];unfold sgnW
   simp;split <;> omega
  clear e1
  go_enter Tryz.func128,Tryz.ntmps128
  go_wp2
  all_goals go_ret2
  all_goals exact ⟨tell_yes ho.out,rfl⟩
 ·have ho : Hid ((ofR x).1 ≠ 1) := by
   refine raw_not (by decide) ?_
   unfold ofRaw;rw [if_neg h]
   split
   ·exact (by decide : (2 : Int) ≠ 1)
   split
   ·split
    ·exact (by decide : (3 : Int) ≠ 1)
    split
    ·show x / 8 % 32 - 2 ≠ 1;omega
    ·exact (by decide : (0 : Int) ≠ 1)
   split
   ·exact (by decide : (8 : Int) ≠ 1)
   ·exact (by decide : (0 : Int) ≠ 1)
  go_enter Tryz.func128,Tryz.ntmps128
  go_wp2
  all_goals go_ret2
  all_goals exact ⟨tell_no ho.out,rfl⟩
theorem at_any (x : Int) (hx : U64 x) (w : World) : Calls Tryz.prog 106 #[.int .u64 x] w fun e w'=>e = .returned (.tuple #[.int .i64 (hasR 2 x),.bool (isR 2 x)]) /\ w' = w:=by
 have e0:=and7 hx
 unfold U64 at hx
 by_cases h : x % 8 = 1
 ·have hw : Hid (ofRaw x = (2, x / 8, 0)) := by unfold Hid ofRaw; rw [if_neg (by omega), if_pos h]
  by_cases h2 : x / 8 <= 1099511627776
  ·have ho : Hid (ofR x = (2, x / 8, 0)) := raw_yes hw.out (by unfold rightB; simp; omega)
   go_enter Tryz.func106,Tryz.ntmps106
   go_wp2
   all_goals go_ret2
   all_goals first
   | exact ⟨tell_yes ho.out,rfl⟩
   | (exfalso;omega)
  ·have ho : Hid ((ofR x).1 ≠ 2) := raw_bad (by decide) (by rw [hw.out]; unfold rightB; simp; omega)
   go_enter Tryz.func106,Tryz.ntmps106
   go_wp2
   all_goals go_ret2
   all_goals first
   | exact ⟨tell_no ho.out,rfl⟩
   | (exfalso;omega)
 ·have ho : Hid ((ofR x).1 ≠ 2) := by
   refine raw_not (by decide) ?_
   unfold ofRaw
   split
   ·exact (by decide : (1 : Int) ≠ 2)
   split
   ·split
    ·exact (by decide : (3 : Int) ≠ 2)
    split
    ·show x / 8 % 32 - 2 ≠ 2;omega
    ·exact (by decide : (0 : Int) ≠ 2)
   split
   ·exact (by decide : (8 : Int) ≠ 2)
   ·exact (by decide : (0 : Int) ≠ 2)
  go_enter Tryz.func106,Tryz.ntmps106
  go_wp2
  all_goals go_ret2
  all_goals exact ⟨tell_no ho.out,rfl⟩
theorem headof_any (x : Int) (hx : U64 x) (w : World) : Calls Tryz.prog 115 #[.int .u64 x] w fun e w'=>e = .returned (.tuple #[.int .i64 (typR x),.int .i64 (hasR 8 x),.bool (isR 8 x)]) /\ w' = w:=by
 have e0:=and7 hx
 have e1:=and255w (x:=x / 8) (by unfold U64 at hx ⊢;omega)
 unfold U64 at hx
 by_cases h : x % 8 = 7
 ·have hw : Hid (ofRaw x = (8, x / 2048, x / 8 % 256)) := by unfold Hid ofRaw; rw [if_neg (by omega), if_neg (by omega), if_neg (by omega), if_pos h]
  by_cases h2 : 1 <= x / 8 % 256 /\ x / 2048 <= 1099511627776
  ·have ho : Hid (ofR x = (8, x / 2048, x / 8 % 256)) := raw_yes hw.out (by unfold rightB; simp; omega)
   obtain ⟨h3,h4⟩:=h2
   go_enter Tryz.func115,Tryz.ntmps115
   go_wp2
   all_goals go_ret3
   all_goals first
   | exact ⟨tellh_yes ho.out,rfl⟩
   | (exfalso;omega)
  ·have ho : Hid ((ofR x).1 ≠ 8) := raw_bad (by decide) (by rw [hw.out]; unfold rightB; simp; omega)
   go_enter Tryz.func115,Tryz.ntmps115
   go_wp2
   all_goals go_ret3
   all_goals first
   | exact ⟨tellh_no ho.out,rfl⟩
   | (exfalso;omega)
 ·have ho : Hid ((ofR x).1 ≠ 8) := by
   refine raw_not (by decide) ?_
   unfold ofRaw
   split
   ·exact (by decide : (1 : Int) ≠ 8)
   split
   ·exact (by decide : (2 : Int) ≠ 8)
   split
   ·split
    ·exact (by decide : (3 : Int) ≠ 8)
    split
    ·show x / 8 % 32 - 2 ≠ 8;omega
    ·exact (by decide : (0 : Int) ≠ 8)
   exact (by decide : (0 : Int) ≠ 8)
  go_enter Tryz.func115,Tryz.ntmps115
  go_wp2
  all_goals go_ret3
  all_goals exact ⟨tellh_no ho.out,rfl⟩
theorem bool_any (b : Bool) (w : World) : Calls Tryz.prog 174 #[.bool b] w fun e w'=>e = .returned (.int .u64 (if b then 18 else 10)) /\ w' = w:=by
 cases b <;>
 ·go_enter Tryz.func174, Tryz.ntmps174
  go_wp2
  go_ret
  exact ⟨rfl,rfl⟩
theorem results_four {fn : Func} {t u v x : Tmp} (h : fn.results = #[.tmp t,.tmp u,.tmp v,.tmp x]) (tmps : Array Value) (P : Program) (w : World) :
  (results fn tmps).run P w = .ok (.tuple #[tmps.getD t undef,tmps.getD u undef,tmps.getD v undef,tmps.getD x undef]) w:=by
 simp [results,h]
structure PH (B : Nat) (v : Value) (N : Int) (ws : List Int) (F : Nat -> Prop) (w : World) : Prop where
 ok : ∃ gh gw n rest,v = .pointer (some ⟨gh,0,none⟩) /\ w.heap[gh]? = some (.cells #[.slice (some ⟨gw,0,none⟩) n n,.int .i64 (ws.length : Nat)] 125 (0,0)) /\ (n : Int) = N /\ w.heap[gw]? = some (.cells (uz (ws ++ rest)).toArray 44 (0,0)) /\ (ws ++ rest).length = n /\ gh ≠ gw /\ B <= gh /\ B <= gw /\ (∀ b,F b ↔ b = gh \/ b = gw)
 bd : (ws.length : Int) <= N /\ N <= 4194304
 u : ∀ z∈ws,U64 z
theorem PH.ge {B : Nat} {v : Value} {N : Int} {ws : List Int} {F : Nat -> Prop} {w : World} (h : PH B v N ws F w) : ∀ b,F b -> B <= b /\ b < w.heap.size:=by
 obtain ⟨gh,gw,n,rest,rfl,h1,h2,h3,h4,h5,h6,h7,h8⟩:=h.ok
 intro b hb
 rcases (h8 b).1 hb with rfl | rfl
 ·exact ⟨h6,(Array.getElem?_eq_some_iff.1 h1).1⟩
 ·exact ⟨h7,(Array.getElem?_eq_some_iff.1 h3).1⟩
theorem PH.keep {B : Nat} {v : Value} {N : Int} {ws : List Int} {F : Nat -> Prop} {w w' : World} (h : PH B v N ws F w) (hb : ∀ b,F b -> w'.heap[b]? = w.heap[b]?) : PH B v N ws F w':=by
 refine ⟨?_,h.bd,h.u⟩
 obtain ⟨gh,gw,n,rest,e,h1,h2,h3,h4,h5,h6,h7,h8⟩:=h.ok
 exact ⟨gh,gw,n,rest,e,(hb gh ((h8 gh).2 (.inl rfl))).trans h1,h2,(hb gw ((h8 gw).2 (.inr rfl))).trans h3,h4,h5,h6,h7,h8⟩
theorem PH.ptr {B : Nat} {v : Value} {N : Int} {ws : List Int} {F : Nat -> Prop} {w : World} (h : PH B v N ws F w) : ∃ gh,v = .pointer (some ⟨gh,0,none⟩):=by
 obtain ⟨gh,_,_,_,e,_⟩:=h.ok;exact ⟨gh,e⟩
def PPost (B : Nat) (v : Value) (N : Int) (F : Nat -> Prop) (w : World) (ws' : List Int) (w' : World) : Prop :=
 ∃ F',PH B v N ws' F' w' /\ (∀ b,F' b -> F b \/ w.heap.size <= b) /\ Mod F w w'
structure PO (B gh gw n : Nat) (N : Int) (ws rest : List Int) (F : Nat -> Prop) (w : World) : Prop where
 box : w.heap[gh]? = some (.cells #[.slice (some ⟨gw,0,none⟩) n n,.int .i64 (ws.length : Nat)] 125 (0,0))
 nn : (n : Int) = N
 row : w.heap[gw]? = some (.cells (uz (ws ++ rest)).toArray 44 (0,0))
 len : (ws ++ rest).length = n
 ne : gh ≠ gw
 bh : B <= gh
 bw : B <= gw
 ff : ∀ b,F b ↔ b = gh \/ b = gw
 bd : (ws.length : Int) <= N /\ N <= 4194304
 u : ∀ z∈ws,U64 z
section
variable {B gh gw n : Nat} {v : Value} {N : Int} {ws rest : List Int} {F : Nat -> Prop} {w w' : World}
theorem PH.opened (h : PH B v N ws F w) : ∃ gh gw n rest,v = .pointer (some ⟨gh,0,none⟩) /\ PO B gh gw n N ws rest F w:=by
 obtain ⟨gh,gw,n,rest,rfl,h1,h2,h3,h4,h5,h6,h7,h8⟩:=h.ok
 exact ⟨gh,gw,n,rest,rfl,h1,h2,h3,h4,h5,h6,h7,h8,h.bd,h.u⟩
theorem PO.shut (h : PO B gh gw n N ws rest F w) : PH B (.pointer (some ⟨gh,0,none⟩)) N ws F w :=
 ⟨⟨gh,gw,n,rest,rfl,h.box,h.nn,h.row,h.len,h.ne,h.bh,h.bw,h.ff⟩,h.bd,h.u⟩
theorem PO.c0 (h : PO B gh gw n N ws rest F w) : w.cell? ⟨gh,0,none⟩ = some (.slice (some ⟨gw,0,none⟩) n n):=blk_cell h.box 0
theorem PO.c1 (h : PO B gh gw n N ws rest F w) : w.cell? ⟨gh,1,none⟩ = some (.int .i64 (ws.length : Nat)):=blk_cell h.box 1
theorem PO.word (h : PO B gh gw n N ws rest F w) {i : Nat} (hi : i < n) : w.cell? ⟨gw,i,none⟩ = some (.int .u64 ((ws ++ rest).getD i 0)):=by
 rw [blk_cell h.row,List.getElem?_toArray,uz_get (by rw [h.len];exact hi)]
theorem PO.used_le (h : PO B gh gw n N ws rest F w) : ws.length <= n:=by have:=h.len;rw [List.length_append] at this;omega
theorem PO.word' (h : PO B gh gw n N ws rest F w) {i : Nat} (hi : i < ws.length) : w.cell? ⟨gw,i,none⟩ = some (.int .u64 (ws.getD i 0)):=by
 rw [h.word (Nat.lt_of_lt_of_le hi h.used_le),List.getD_eq_getElem?_getD,List.getElem?_append_left hi,<- List.getD_eq_getElem?_getD]
theorem PO.on (h : PO B gh gw n N ws rest F w) (hb : Below w.heap.size w w') : PO B gh gw n N ws rest F w' :=
 { h with box:=(hb.block gh (Array.getElem?_eq_some_iff.1 h.box).1).trans h.box,row:=(hb.block gw (Array.getElem?_eq_some_iff.1 h.row).1).trans h.row }
theorem PO.put (h : PO B gh gw n N ws rest F w) {i : Nat} (hi : i < ws.length) {z : Int} (hz : U64 z) : PO B gh gw n N (ws.set i z) rest F (w.setCell ⟨gw,i,none⟩ (.int .u64 z)) /\ Mod F w (w.setCell ⟨gw,i,none⟩ (.int .u64 z)):=by
 refine ⟨{ h with box:=?_,row:=?_,len:=?_,bd:=?_,u:=?_ },(Mod.refl F w).setCell (.inl ((h.ff gw).2 (.inr rfl))) _⟩
 ·rw [List.length_set];exact (Below.heap_setCell _ _ _ _ h.ne).trans h.box
 ·have := blk_set (i := i) h.row (.int .u64 z)
  rw [this]
  simp [uz,List.map_append,List.map_set,List.set_append_left _ _ (show i < (ws.map (Value.int .u64)).length by simpa using hi)]
 ·rw [List.length_append,List.length_set,<- List.length_append];exact h.len
 ·rw [List.length_set];exact h.bd
 ·intro y hy
  rcases List.mem_or_eq_of_mem_set hy with hy | rfl
  ·exact h.u y hy
  ·exact hz
end
theorem obj_some {os : List Ob} (ho : OsOk os) (hu : usedL os <= 4194304) {p : Int} {k : Nat} (h : findM os p = some k) :
  isR 2 p = true /\ hasR 2 p = (atO os k : Nat) /\ atO os k < usedL os /\ ofR ((wordsL os).getD (atO os k) 0) = ((8 : Int),(((os.getD k default).f.length : Nat) : Int),(os.getD k default).kind):=by
 have h1:=findM_lt h
 have h2 : (ofR p).1 = 2:=by
  unfold findM at h
  split at h
  ·assumption
  ·cases h
 have h3:=at_lt h1.1
 refine ⟨by unfold isR;simp [h2],by unfold hasR;rw [if_pos h2];exact h1.2.symm,by omega,?_⟩
 rw [word_head h1.1]
 exact head_of (ho.kd _ (getD_in_os h1.1)) (by omega)
theorem obj_none {os : List Ob} (ho : OsOk os) (hu : usedL os <= 4194304) {p : Int} (hp : U64 p) (h : findM os p = none) :
  isR 2 p = false \/ ∃ a : Nat,hasR 2 p = (a : Int) /\ (usedL os <= a \/ (ofR ((wordsL os).getD a 0)).1 ≠ 8):=by
 by_cases h2 : (ofR p).1 = 2
 ·right
  have h3:=place_word hp h2
  have hn : 0 <= (ofR p).2.1:=by unfold U64 at hp;omega
  refine ⟨(ofR p).2.1.toNat,by unfold hasR;rw [if_pos h2];omega,?_⟩
  by_cases h4 : usedL os <= (ofR p).2.1.toNat
  ·exact .inl h4
  ·right
   intro e
   obtain ⟨k,hk,hka⟩:=(head_iff ho (by omega) (by omega)).1 e
   have:=fnd_at (os:=os) hk (Nat.zero_le k)
   unfold findM at h
   rw [if_pos h2] at h
   have hc : ((atO os k : Nat) : Int) = (ofR p).2.1:=by omega
   rw [hc] at this
   rw [h] at this;cases this
 ·left;unfold isR;simp [h2]
section
variable {B : Nat} {v : Value} {N : Int} {F : Nat -> Prop} {ws : List Int}
theorem q_used (w : World) (h : PH B v N ws F w) : Calls Tryz.prog 48 #[v] w fun e w'=>e = .returned (.int .i64 (ws.length : Nat)) /\ w' = w:=by
 obtain ⟨gh,gw,n,rest,rfl,hp⟩:=h.opened
 have c1:=hp.c1
 clear h hp
 go_enter Tryz.func48,Tryz.ntmps48
 go_wp2
 go_ret
 exact ⟨rfl,rfl⟩
theorem proom_any (w : World) (h : PH B v N ws F w) : Calls Tryz.prog 86 #[v] w fun e w'=>e = .returned (.int .i64 (N - (ws.length : Nat))) /\ Below w.heap.size w w':=by
 obtain ⟨gh,gw,n,rest,rfl,hp⟩:=h.opened
 have c0:=hp.c0
 have c1:=hp.c1
 have hu:=hp.used_le
 have hn:=hp.nn
 have hbd:=hp.bd
 subst hn
 clear h hp
 go_enter Tryz.func86,Tryz.ntmps86
 go_wp2_with fail
 go_quiet (fail)
 go_wp2
 go_ret
 exact ⟨rfl,Bd _ _⟩
theorem q_in {k : Nat} (hk : k < ws.length) (w : World) (h : PH B v N ws F w) : Calls Tryz.prog 118 #[v,.int .i64 k] w fun e w'=>e = .returned (.bool true) /\ w' = w:=by
 have CU:=hid (q_used w h)
 have hbd:=h.bd
 obtain ⟨gh,rfl⟩:=h.ptr
 clear h
 go_enter Tryz.func118,Tryz.ntmps118
 go_wp2_with (go_at_call 48;(with_reducible refine CU.out.mono ?_);rintro e W1 ⟨rfl,hw1⟩;rw [hw1];clear hw1)
 go_ret
 exact ⟨rfl,rfl⟩
theorem q_out {i : Int} (hi : i < 0 \/ (ws.length : Int) <= i) (w : World) (h : PH B v N ws F w) : Calls Tryz.prog 118 #[v,.int .i64 i] w fun e w'=>e = .returned (.bool false) /\ w' = w:=by
 have CU:=hid (q_used w h)
 have hbd:=h.bd
 obtain ⟨gh,rfl⟩:=h.ptr
 clear h
 by_cases h0 : i < 0
 ·go_enter Tryz.func118, Tryz.ntmps118
  go_wp2_with (go_at_call 48;(with_reducible refine CU.out.mono ?_);rintro e W1 ⟨rfl,hw1⟩;rw [hw1];clear hw1)
  go_ret
  exact ⟨rfl,rfl⟩
 ·have h1 : (ws.length : Int) <= i := by omega
  clear hi
  go_enter Tryz.func118,Tryz.ntmps118
  go_wp2_with (go_at_call 48;(with_reducible refine CU.out.mono ?_);rintro e W1 ⟨rfl,hw1⟩;rw [hw1];clear hw1)
  go_ret
  refine ⟨?_,rfl⟩
  show Ending.returned (Value.bool (decide (i < (ws.length : Int)))) = _
  rw [decide_eq_false (by omega)]
theorem q_word {k : Nat} (hk : k < ws.length) (w : World) (h : PH B v N ws F w) : Calls Tryz.prog 108 #[v,.int .i64 k] w fun e w'=>e = .returned (.int .u64 (ws.getD k 0)) /\ w' = w:=by
 have CU:=hid (q_in hk w h)
 obtain ⟨gh,gw,n,rest,rfl,hp⟩:=h.opened
 have c0:=hp.c0
 have cw:=hp.word' hk
 have hul:=hp.used_le
 have hnn:=hp.nn
 have hbd:=hp.bd
 obtain ⟨z,hz⟩ : ∃ z,z = ws.getD k 0:=⟨_,rfl⟩
 rw [<- hz] at cw ⊢
 clear hz h hp
 go_enter Tryz.func108,Tryz.ntmps108
 go_wp2_with (go_at_call 118;(with_reducible refine CU.out.mono ?_);rintro e W1 ⟨rfl,hw1⟩;rw [hw1];clear hw1)
 go_ret
 exact ⟨rfl,rfl⟩
theorem q_noword {i : Int} (hi : i < 0 \/ (ws.length : Int) <= i) (w : World) (h : PH B v N ws F w) : Calls Tryz.prog 108 #[v,.int .i64 i] w fun e w'=>e = .returned (.int .u64 0) /\ w' = w:=by
 have CU:=hid (q_out hi w h)
 obtain ⟨gh,rfl⟩:=h.ptr
 clear h hi
 go_enter Tryz.func108,Tryz.ntmps108
 go_wp2_with (go_at_call 118;(with_reducible refine CU.out.mono ?_);rintro e W1 ⟨rfl,hw1⟩;rw [hw1];clear hw1)
 go_ret
 exact ⟨rfl,rfl⟩
theorem q_obj {p : Int} {a : Nat} (hp : U64 p) (h2 : isR 2 p = true) (ha : hasR 2 p = (a : Int)) (hl : a < ws.length) (h8 : isR 8 (ws.getD a 0) = true) (w : World) (h : PH B v N ws F w) :
  Calls Tryz.prog 117 #[v,.int .u64 p] w fun e w'=>e = .returned (.tuple #[.int .i64 a,.int .i64 (typR (ws.getD a 0)),.int .i64 (hasR 8 (ws.getD a 0)),.int .i64 0]) /\ w' = w:=by
 have C1:=hid (at_any p hp w)
 rw [h2,ha] at C1
 have C2:=hid (q_word hl w h)
 have hz:=h.u _ (getD_in_f hl)
 obtain ⟨gh,rfl⟩:=h.ptr
 obtain ⟨z,hzz⟩ : ∃ z,z = ws.getD a 0:=⟨_,rfl⟩
 rw [<- hzz] at hz h8 C2 ⊢
 have C3:=hid (headof_any z hz w)
 rw [h8] at C3
 obtain ⟨kd,hkd⟩ : ∃ k,k = typR z:=⟨_,rfl⟩
 obtain ⟨sz,hsz⟩ : ∃ k,k = hasR 8 z:=⟨_,rfl⟩
 rw [<- hkd,<- hsz] at C3 ⊢
 clear h hzz hz h8 hkd hsz h2 ha hl
 go_enter Tryz.func117,Tryz.ntmps117
 go_wp2_with (first
  | (go_at_call 106;(with_reducible refine C1.out.mono ?_);rintro e W1 ⟨rfl,hw1⟩;rw [hw1];clear hw1)
  | (go_at_call 108;(with_reducible refine C2.out.mono ?_);rintro e W1 ⟨rfl,hw1⟩;rw [hw1];clear hw1)
  | (go_at_call 115;(with_reducible refine C3.out.mono ?_);rintro e W1 ⟨rfl,hw1⟩;rw [hw1];clear hw1))
 (try simp only [Exit.inBlock,Exit.then]);refine bodyPost_ret (results_four rfl _ _ _) rfl ?_
 exact ⟨rfl,rfl⟩
theorem isR_zero : isR 8 0 = false:=by unfold isR;simp [ofR,ofRaw,rightB];split <;> simp
theorem q_noobj {p : Int} (hp : U64 p) (hno : isR 2 p = false \/ ∃ a : Nat,hasR 2 p = (a : Int) /\ (ws.length <= a \/ isR 8 (ws.getD a 0) = false)) (w : World) (h : PH B v N ws F w) :
  Calls Tryz.prog 117 #[v,.int .u64 p] w fun e w'=>e = .returned (.tuple #[.int .i64 0,.int .i64 0,.int .i64 0,.int .i64 70]) /\ w' = w:=by
 have C1:=hid (at_any p hp w)
 by_cases h2 : isR 2 p = true
 ·rw [h2] at C1 hno
  obtain ⟨a,ha,hb⟩:=hno.resolve_left (by simp)
  rw [ha] at C1
  obtain ⟨z,C2,hz,h8⟩ : ∃ z,Hid (Calls Tryz.prog 108 #[v,.int .i64 a] w fun e w'=>e = .returned (.int .u64 z) /\ w' = w) /\ U64 z /\ isR 8 z = false:=by
   by_cases hl : a < ws.length
   ·exact ⟨_,q_word hl w h,h.u _ (getD_in_f hl),hb.resolve_left (by omega)⟩
   ·exact ⟨0,q_noword (by omega) w h,by unfold U64;omega,isR_zero⟩
  obtain ⟨gh,rfl⟩:=h.ptr
  have C3:=hid (headof_any z hz w)
  rw [h8] at C3
  obtain ⟨kd,hkd⟩ : ∃ k,k = typR z:=⟨_,rfl⟩
  obtain ⟨sz,hsz⟩ : ∃ k,k = hasR 8 z:=⟨_,rfl⟩
  rw [<- hkd,<- hsz] at C3
  clear h hz h8 hkd hsz h2 ha hb hno
  go_enter Tryz.func117,Tryz.ntmps117
  go_wp2_with (first
   | (go_at_call 106;(with_reducible refine C1.out.mono ?_);rintro e W1 ⟨rfl,hw1⟩;rw [hw1];clear hw1)
   | (go_at_call 108;(with_reducible refine C2.out.mono ?_);rintro e W1 ⟨rfl,hw1⟩;rw [hw1];clear hw1)
   | (go_at_call 115;(with_reducible refine C3.out.mono ?_);rintro e W1 ⟨rfl,hw1⟩;rw [hw1];clear hw1))
  (try simp only [Exit.inBlock,Exit.then]);refine bodyPost_ret (results_four rfl _ _ _) rfl ?_
  exact ⟨rfl,rfl⟩
 ·have h2' : isR 2 p = false := by simpa using h2
  rw [h2'] at C1
  obtain ⟨a,ha⟩ : ∃ k,k = hasR 2 p:=⟨_,rfl⟩
  rw [<- ha] at C1
  obtain ⟨gh,rfl⟩:=h.ptr
  clear h hno h2 h2' ha
  go_enter Tryz.func117,Tryz.ntmps117
  go_wp2_with (go_at_call 106;(with_reducible refine C1.out.mono ?_);rintro e W1 ⟨rfl,hw1⟩;rw [hw1];clear hw1)
  (try simp only [Exit.inBlock,Exit.then]);refine bodyPost_ret (results_four rfl _ _ _) rfl ?_
  exact ⟨rfl,rfl⟩
end
section
variable {B : Nat} {v : Value} {N : Int} {F : Nat -> Prop} {os : List Ob}
theorem q_some {p : Int} {k : Nat} (ho : OsOk os) (hp : U64 p) (hf : findM os p = some k) (w : World) (h : PH B v N (wordsL os) F w) :
  Calls Tryz.prog 117 #[v,.int .u64 p] w fun e w'=>e = .returned (.tuple #[.int .i64 (atO os k : Nat),.int .i64 (os.getD k default).kind,.int .i64 ((os.getD k default).f.length : Nat),.int .i64 0]) /\ w' = w:=by
 have hbd:=h.bd
 rw [wordsL_length] at hbd
 obtain ⟨h1,h2,h3,h4⟩:=obj_some ho (by omega) hf
 have e8 : isR 8 ((wordsL os).getD (atO os k) 0) = true:=by unfold isR;rw [h4];simp
 have:=q_obj hp h1 h2 (by rw [wordsL_length];exact h3) e8 w h
 unfold typR hasR at this
 rw [h4] at this
 simpa using this
theorem q_none {p : Int} (ho : OsOk os) (hp : U64 p) (hf : findM os p = none) (w : World) (h : PH B v N (wordsL os) F w) :
  Calls Tryz.prog 117 #[v,.int .u64 p] w fun e w'=>e = .returned (.tuple #[.int .i64 0,.int .i64 0,.int .i64 0,.int .i64 70]) /\ w' = w:=by
 have hbd:=h.bd
 rw [wordsL_length] at hbd
 refine q_noobj hp ?_ w h
 rcases obj_none ho (by omega) hp hf with h1 | ⟨a,h1,h2⟩
 ·exact .inl h1
 ·refine .inr ⟨a, h1, ?_⟩
  rw [wordsL_length]
  rcases h2 with h2 | h2
  ·exact .inl h2
  ·exact .inr (decide_eq_false h2)
theorem pkind_any (ho : OsOk os) (p : Int) (hp : U64 p) (w : World) (h : PH B v N (wordsL os) F w) :
  Calls Tryz.prog 73 #[v,.int .u64 p] w fun e w'=>e = .returned (.tuple #[.int .i64 (kindM os p).1,.int .i64 (kindM os p).2]) /\ Below w.heap.size w w':=by
 have H:=hid h
 obtain ⟨gh,rfl⟩:=h.ptr
 clear h
 unfold kindM
 cases hf : findM os p with
 | none =>
  have C:=hid (q_none ho hp hf w H.out)
  simp only
  clear hf H
  go_enter Tryz.func73,Tryz.ntmps73
  go_wp2_with (go_at_call 117;(with_reducible refine C.out.mono ?_);rintro e W1 ⟨rfl,hw1⟩;rw [hw1];clear hw1)
  go_ret2
  exact ⟨rfl,Below.refl _ _⟩
 | some k =>
  have C:=hid (q_some ho hp hf w H.out)
  simp only
  clear hf H
  go_enter Tryz.func73,Tryz.ntmps73
  go_wp2_with (go_at_call 117;(with_reducible refine C.out.mono ?_);rintro e W1 ⟨rfl,hw1⟩;rw [hw1];clear hw1)
  go_ret2
  exact ⟨rfl,Below.refl _ _⟩
theorem psize_any (ho : OsOk os) (p : Int) (hp : U64 p) (w : World) (h : PH B v N (wordsL os) F w) :
  Calls Tryz.prog 153 #[v,.int .u64 p] w fun e w'=>e = .returned (.tuple #[.int .i64 (sizeM os p).1,.int .i64 (sizeM os p).2]) /\ Below w.heap.size w w':=by
 have H:=hid h
 obtain ⟨gh,rfl⟩:=h.ptr
 clear h
 unfold sizeM
 cases hf : findM os p with
 | none =>
  have C:=hid (q_none ho hp hf w H.out)
  simp only
  clear hf H
  go_enter Tryz.func153,Tryz.ntmps153
  go_wp2_with (go_at_call 117;(with_reducible refine C.out.mono ?_);rintro e W1 ⟨rfl,hw1⟩;rw [hw1];clear hw1)
  go_ret2
  exact ⟨rfl,Below.refl _ _⟩
 | some k =>
  have C:=hid (q_some ho hp hf w H.out)
  simp only
  clear hf H
  go_enter Tryz.func153,Tryz.ntmps153
  go_wp2_with (go_at_call 117;(with_reducible refine C.out.mono ?_);rintro e W1 ⟨rfl,hw1⟩;rw [hw1];clear hw1)
  go_ret2
  exact ⟨rfl,Below.refl _ _⟩
theorem q_field {p kind i : Int} {k : Nat} (ho : OsOk os) (hp : U64 p) (hk : Z64 kind) (hi : Z64 i) (hf : fieldM os p kind i = ((k : Int),0)) (w : World) (h : PH B v N (wordsL os) F w) :
  Calls Tryz.prog 71 #[v,.int .u64 p,.int .i64 kind,.int .i64 i] w fun e w'=>e = .returned (.tuple #[.int .i64 ((atO os k : Nat) + 1 + i),.int .i64 0]) /\ w' = w:=by
 obtain ⟨k',e1,hkl,hfd,h0,h1⟩:=fieldM_ok (os:=os) (p:=p) (kind:=kind) (i:=i) (by rw [hf])
 rw [hf] at e1
 obtain rfl : k = k':=by have:=congrArg Prod.fst e1;exact Int.ofNat.inj this
 have hkk : kind = 0 \/ kind = (os.getD k default).kind:=by
  unfold fieldM at hf
  rw [hfd] at hf
  simp only at hf
  by_cases hc : kind ≠ 0 /\ (os.getD k default).kind ≠ kind
  ·rw [if_pos hc] at hf;simp at hf
  ·by_cases h0 : kind = 0
   ·exact .inl h0
   ·exact .inr (Classical.byContradiction fun h=>hc ⟨h0,fun e=>h e.symm⟩)
 have C:=hid (q_some ho hp hfd w h)
 have hbd:=h.bd
 rw [wordsL_length] at hbd
 have hal:=at_lt hkl
 obtain ⟨j,rfl⟩ : ∃ j : Nat,i = (j : Int):=⟨i.toNat,by omega⟩
 have CI:=hid (q_in (k:=atO os k + 1 + j) (by rw [wordsL_length];omega) w h)
 obtain ⟨gh,rfl⟩:=h.ptr
 have hxk:=ho.kd _ (getD_in_os hkl)
 obtain ⟨x,hx⟩ : ∃ x,x = os.getD k default:=⟨_,rfl⟩
 rw [<- hx] at C hkk hal h1 hxk
 obtain ⟨a,ha⟩ : ∃ a,a = atO os k:=⟨_,rfl⟩
 rw [<- ha] at C CI hal ⊢
 obtain ⟨xk,xf⟩:=x
 simp only at C hkk hal h1 hxk
 obtain ⟨fl,hfl⟩ : ∃ q,q = xf.length:=⟨_,rfl⟩
 rw [<- hfl] at C hal h1
 have ecast : Hid (((a + 1 + j : Nat) : Int) = (a : Int) + 1 + j):=by unfold Hid;omega
 rw [ecast.out] at CI
 clear h hx ha hfl hf hfd hkl e1 h0
 unfold Z64 at hk
 rcases hkk with rfl | rfl
 ·go_enter Tryz.func71, Tryz.ntmps71
  go_wp2_with (first
   | (go_at_call 117;(with_reducible refine C.out.mono ?_);rintro e W1 ⟨rfl,hw1⟩;rw [hw1];clear hw1)
   | (go_at_call 118;(with_reducible refine CI.out.mono ?_);rintro e W1 ⟨rfl,hw1⟩;rw [hw1];clear hw1))
  go_ret2
  exact ⟨rfl,rfl⟩
 ·have ek : (kind != kind) = false := by simp
  have ek0 : (kind != 0) = true:=by simp;omega
  go_enter Tryz.func71,Tryz.ntmps71
  go_wp2_with (first
   | (go_at_call 117;(with_reducible refine C.out.mono ?_);rintro e W1 ⟨rfl,hw1⟩;rw [hw1];clear hw1)
   | (go_at_call 118;(with_reducible refine CI.out.mono ?_);rintro e W1 ⟨rfl,hw1⟩;rw [hw1];clear hw1))
  go_ret2
  exact ⟨rfl,rfl⟩
end
end Go.Proofs.YticimejfjjmikaaGreatDoor
