import Derived.Test.YticimejfjjmikaaGreatDoorX3
import Derived.Deep.QuietTactic
import Derived.BigQuiet
set_option linter.unusedVariables false
set_option linter.unusedSimpArgs false
set_option maxRecDepth 100000
namespace Go.Proofs.YticimejfjjmikaaGreatDoor
open Go.RowKit
theorem results_four {fn : Func} {t u v x : Tmp} (h : fn.results = #[.tmp t,.tmp u,.tmp v,.tmp x]) (tmps : Array Value) (P : Program) (w : World) :
  (results fn tmps).run P w = .ok (.tuple #[tmps.getD t undef,tmps.getD u undef,tmps.getD v undef,tmps.getD x undef]) w:=by
 simp [results,h]
structure PH (B : Nat) (v : Value) (N : Int) (ws : List Int) (F : Nat -> Prop) (w : World) : Prop where
 ok : ∃ gh gw n rest,v = .pointer (some ⟨gh,0,none⟩) /\ w.heap[gh]? = some (.cells #[.slice (some ⟨gw,0,none⟩) n n,.int .i64 (ws.length : Nat)] 125 (0,0)) /\ (n : Int) = N /\ w.heap[gw]? = some (.cells (uz (ws ++ rest)).toArray 44 (0,0)) /\ (ws ++ rest).length = n /\ gh ≠ gw /\ B <= gh /\ B <= gw /\ (∀ b,F b ↔ b = gh \/ b = gw)
 bd : (ws.length : Int) <= N /\ N <= 4194304
 u : ∀ z∈ws,U64 z
theorem PH.ge {B : Nat} {v : Value} {N : Int} {ws : List Int} {F : Nat -> Prop} {w : World} (h : PH B v N ws F w) : ∀ b,F b -> B <= b /\ b < w.heap.size:=by
 obtain ⟨gh,gw,n,rest,rfl,h1,h2,h3,h4,h5,h6,h7,h8⟩:=h.ok
 intro b hb
 rcases (h8 b).1 hb with rfl | rfl
 ·exact ⟨h6,(Array.getElem?_eq_some_iff.1 h1).1⟩
 ·exact ⟨h7,(Array.getElem?_eq_some_iff.1 h3).1⟩
theorem PH.keep {B : Nat} {v : Value} {N : Int} {ws : List Int} {F : Nat -> Prop} {w w' : World} (h : PH B v N ws F w) (hb : ∀ b,F b -> w'.heap[b]? = w.heap[b]?) : PH B v N ws F w':=by
 refine ⟨?_,h.bd,h.u⟩
 obtain ⟨gh,gw,n,rest,e,h1,h2,h3,h4,h5,h6,h7,h8⟩:=h.ok
 exact ⟨gh,gw,n,rest,e,(hb gh ((h8 gh).2 (.inl rfl))).trans h1,h2,(hb gw ((h8 gw).2 (.inr rfl))).trans h3,h4,h5,h6,h7,h8⟩
theorem PH.ptr {B : Nat} {v : Value} {N : Int} {ws : List Int} {F : Nat -> Prop} {w : World} (h : PH B v N ws F w) : ∃ gh,v = .pointer (some ⟨gh,0,none⟩):=by
 obtain ⟨gh,_,_,_,e,_⟩:=h.ok;exact ⟨gh,e⟩
def PPost (B : Nat) (v : Value) (N : Int) (F : Nat -> Prop) (w : World) (ws' : List Int) (w' : World) : Prop :=
 ∃ F',PH B v N ws' F' w' /\ (∀ b,F' b -> F b \/ w.heap.size <= b) /\ Mod F w w'
structure PO (B gh gw n : Nat) (N : Int) (ws rest : List Int) (F : Nat -> Prop) (w : World) : Prop where
 box : w.heap[gh]? = some (.cells #[.slice (some ⟨gw,0,none⟩) n n,.int .i64 (ws.length : Nat)] 125 (0,0))
 nn : (n : Int) = N
 row : w.heap[gw]? = some (.cells (uz (ws ++ rest)).toArray 44 (0,0))
 len : (ws ++ rest).length = n
 ne : gh ≠ gw
 bh : B <= gh
 bw : B <= gw
 ff : ∀ b,F b ↔ b = gh \/ b = gw
 bd : (ws.length : Int) <= N /\ N <= 4194304
 u : ∀ z∈ws,U64 z
section
variable {B gh gw n : Nat} {v : Value} {N : Int} {ws rest : List Int} {F : Nat -> Prop} {w w' : World}
theorem PH.opened (h : PH B v N ws F w) : ∃ gh gw n rest,v = .pointer (some ⟨gh,0,none⟩) /\ PO B gh gw n N ws rest F w:=by
 obtain ⟨gh,gw,n,rest,rfl,h1,h2,h3,h4,h5,h6,h7,h8⟩:=h.ok
 exact ⟨gh,gw,n,rest,rfl,h1,h2,h3,h4,h5,h6,h7,h8,h.bd,h.u⟩
theorem PO.shut (h : PO B gh gw n N ws rest F w) : PH B (.pointer (some ⟨gh,0,none⟩)) N ws F w :=
 ⟨⟨gh,gw,n,rest,rfl,h.box,h.nn,h.row,h.len,h.ne,h.bh,h.bw,h.ff⟩,h.bd,h.u⟩
theorem PO.c0 (h : PO B gh gw n N ws rest F w) : w.cell? ⟨gh,0,none⟩ = some (.slice (some ⟨gw,0,none⟩) n n):=blk_cell h.box 0
theorem PO.c1 (h : PO B gh gw n N ws rest F w) : w.cell? ⟨gh,1,none⟩ = some (.int .i64 (ws.length : Nat)):=blk_cell h.box 1
theorem PO.word (h : PO B gh gw n N ws rest F w) {i : Nat} (hi : i < n) : w.cell? ⟨gw,i,none⟩ = some (.int .u64 ((ws ++ rest).getD i 0)):=by
 rw [blk_cell h.row,List.getElem?_toArray,uz_get (by rw [h.len];exact hi)]
theorem PO.used_le (h : PO B gh gw n N ws rest F w) : ws.length <= n:=by have:=h.len;rw [List.length_append] at this;omega
theorem PO.word' (h : PO B gh gw n N ws rest F w) {i : Nat} (hi : i < ws.length) : w.cell? ⟨gw,i,none⟩ = some (.int .u64 (ws.getD i 0)):=by
 rw [h.word (Nat.lt_of_lt_of_le hi h.used_le),List.getD_eq_getElem?_getD,List.getElem?_append_left hi,<- List.getD_eq_getElem?_getD]
theorem PO.on (h : PO B gh gw n N ws rest F w) (hb : Below w.heap.size w w') : PO B gh gw n N ws rest F w' :=
 { h with box:=(hb.block gh (Array.getElem?_eq_some_iff.1 h.box).1).trans h.box,row:=(hb.block gw (Array.getElem?_eq_some_iff.1 h.row).1).trans h.row }
theorem PO.put (h : PO B gh gw n N ws rest F w) {i : Nat} (hi : i < ws.length) {z : Int} (hz : U64 z) : PO B gh gw n N (ws.set i z) rest F (w.setCell ⟨gw,i,none⟩ (.int .u64 z)) /\ Mod F w (w.setCell ⟨gw,i,none⟩ (.int .u64 z)):=by
 refine ⟨{ h with box:=?_,row:=?_,len:=?_,bd:=?_,u:=?_ },(Mod.refl F w).setCell (.inl ((h.ff gw).2 (.inr rfl))) _⟩
 ·rw [List.length_set];exact (Below.heap_setCell _ _ _ _ h.ne).trans h.box
 ·have := blk_set (i := i) h.row (.int .u64 z)
  rw [this]
  simp [uz,List.map_append,List.map_set,List.set_append_left _ _ (show i < (ws.map (Value.int .u64)).length by simpa using hi)]
 ·rw [List.length_append,List.length_set,<- List.length_append];exact h.len
 ·rw [List.length_set];exact h.bd
 ·intro y hy
  rcases List.mem_or_eq_of_mem_set hy with hy | rfl
  ·exact h.u y hy
  ·exact hz
end
theorem obj_some {os : List Ob} (ho : OsOk os) (hu : usedL os <= 4194304) {p : Int} {k : Nat} (h : findM os p = some k) :
  isR 2 p = true /\ hasR 2 p = (atO os k : Nat) /\ atO os k < usedL os /\ ofR ((wordsL os).getD (atO os k) 0) = ((8 : Int),(((os.getD k default).f.length : Nat) : Int),(os.getD k default).kind):=by
 have h1:=findM_lt h
 have h2 : (ofR p).1 = 2:=by
  unfold findM at h
  split at h
  ·assumption
  ·cases h
 have h3:=at_lt h1.1
 refine ⟨by unfold isR;simp [h2],by unfold hasR;rw [if_pos h2];exact h1.2.symm,by omega,?_⟩
 rw [word_head h1.1]
 exact head_of (ho.kd _ (getD_in_os h1.1)) (by omega)
theorem obj_none {os : List Ob} (ho : OsOk os) (hu : usedL os <= 4194304) {p : Int} (hp : U64 p) (h : findM os p = none) :
  isR 2 p = false \/ ∃ a : Nat,hasR 2 p = (a : Int) /\ (usedL os <= a \/ (ofR ((wordsL os).getD a 0)).1 ≠ 8):=by
 by_cases h2 : (ofR p).1 = 2
 ·right
  have h3:=place_word hp h2
  have hn : 0 <= (ofR p).2.1:=by unfold U64 at hp;omega
  refine ⟨(ofR p).2.1.toNat,by unfold hasR;rw [if_pos h2];omega,?_⟩
  by_cases h4 : usedL os <= (ofR p).2.1.toNat
  ·exact .inl h4
  ·right
   intro e
   obtain ⟨k,hk,hka⟩:=(head_iff ho (by omega) (by omega)).1 e
   have:=fnd_at (os:=os) hk (Nat.zero_le k)
   unfold findM at h
   rw [if_pos h2] at h
   have hc : ((atO os k : Nat) : Int) = (ofR p).2.1:=by omega
   rw [hc] at this
   rw [h] at this;cases this
 ·left;unfold isR;simp [h2]
section
variable {B : Nat} {v : Value} {N : Int} {F : Nat -> Prop} {ws : List Int}
theorem q_used (w : World) (h : PH B v N ws F w) : Calls Tryz.prog 48 #[v] w fun e w'=>e = .returned (.int .i64 (ws.length : Nat)) /\ w' = w:=by
 obtain ⟨gh,gw,n,rest,rfl,hp⟩:=h.opened
 have c1:=hp.c1
 clear h hp
 go_enter Tryz.func48,Tryz.ntmps48
 go_wp2
 go_ret
 exact ⟨rfl,rfl⟩
theorem proom_any (w : World) (h : PH B v N ws F w) : Calls Tryz.prog 86 #[v] w fun e w'=>e = .returned (.int .i64 (N - (ws.length : Nat))) /\ Below w.heap.size w w':=by
 obtain ⟨gh,gw,n,rest,rfl,hp⟩:=h.opened
 have c0:=hp.c0
 have c1:=hp.c1
 have hu:=hp.used_le
 have hn:=hp.nn
 have hbd:=hp.bd
 subst hn
 clear h hp
 go_enter Tryz.func86,Tryz.ntmps86
 go_wp2_with fail
 go_quiet (fail)
 go_wp2
 go_ret
 exact ⟨rfl,Bd _ _⟩
theorem q_in {k : Nat} (hk : k < ws.length) (w : World) (h : PH B v N ws F w) : Calls Tryz.prog 118 #[v,.int .i64 k] w fun e w'=>e = .returned (.bool true) /\ w' = w:=by
 have CU:=hid (q_used w h)
 have hbd:=h.bd
 obtain ⟨gh,rfl⟩:=h.ptr
 clear h
 go_enter Tryz.func118,Tryz.ntmps118
 go_wp2_with (go_at_call 48;(with_reducible refine CU.out.mono ?_);rintro e W1 ⟨rfl,hw1⟩;rw [hw1];clear hw1)
 go_ret
 exact ⟨rfl,rfl⟩
theorem q_out {i : Int} (hi : i < 0 \/ (ws.length : Int) <= i) (w : World) (h : PH B v N ws F w) : Calls Tryz.prog 118 #[v,.int .i64 i] w fun e w'=>e = .returned (.bool false) /\ w' = w:=by
 have CU:=hid (q_used w h)
 have hbd:=h.bd
 obtain ⟨gh,rfl⟩:=h.ptr
 clear h
 by_cases h0 : i < 0
 ·go_enter Tryz.func118, Tryz.ntmps118
  go_wp2_with (go_at_call 48;(with_reducible refine CU.out.mono ?_);rintro e W1 ⟨rfl,hw1⟩;rw [hw1];clear hw1)
  go_ret
  exact ⟨rfl,rfl⟩
 ·have h1 : (ws.length : Int) <= i := by omega
  clear hi
  go_enter Tryz.func118,Tryz.ntmps118
  go_wp2_with (go_at_call 48;(with_reducible refine CU.out.mono ?_);rintro e W1 ⟨rfl,hw1⟩;rw [hw1];clear hw1)
  go_ret
  refine ⟨?_,rfl⟩
  show Ending.returned (Value.bool (decide (i < (ws.length : Int)))) = _
  rw [decide_eq_false (by omega)]
theorem q_word {k : Nat} (hk : k < ws.length) (w : World) (h : PH B v N ws F w) : Calls Tryz.prog 108 #[v,.int .i64 k] w fun e w'=>e = .returned (.int .u64 (ws.getD k 0)) /\ w' = w:=by
 have CU:=hid (q_in hk w h)
 obtain ⟨gh,gw,n,rest,rfl,hp⟩:=h.opened
 have c0:=hp.c0
 have cw:=hp.word' hk
 have hul:=hp.used_le
 have hnn:=hp.nn
 have hbd:=hp.bd
 obtain ⟨z,hz⟩ : ∃ z,z = ws.getD k 0:=⟨_,rfl⟩
 rw [<- hz] at cw ⊢
 clear hz h hp
 go_enter Tryz.func108,Tryz.ntmps108
 go_wp2_with (go_at_call 118;(with_reducible refine CU.out.mono ?_);rintro e W1 ⟨rfl,hw1⟩;rw [hw1];clear hw1)
 go_ret
 exact ⟨rfl,rfl⟩
theorem q_noword {i : Int} (hi : i < 0 \/ (ws.length : Int) <= i) (w : World) (h : PH B v N ws F w) : Calls Tryz.prog 108 #[v,.int .i64 i] w fun e w'=>e = .returned (.int .u64 0) /\ w' = w:=by
 have CU:=hid (q_out hi w h)
 obtain ⟨gh,rfl⟩:=h.ptr
 clear h hi
 go_enter Tryz.func108,Tryz.ntmps108
 go_wp2_with (go_at_call 118;(with_reducible refine CU.out.mono ?_);rintro e W1 ⟨rfl,hw1⟩;rw [hw1];clear hw1)
 go_ret
 exact ⟨rfl,rfl⟩
theorem q_obj {p : Int} {a : Nat} (hp : U64 p) (h2 : isR 2 p = true) (ha : hasR 2 p = (a : Int)) (hl : a < ws.length) (h8 : isR 8 (ws.getD a 0) = true) (w : World) (h : PH B v N ws F w) :
  Calls Tryz.prog 117 #[v,.int .u64 p] w fun e w'=>e = .returned (.tuple #[.int .i64 a,.int .i64 (typR (ws.getD a 0)),.int .i64 (hasR 8 (ws.getD a 0)),.int .i64 0]) /\ w' = w:=by
 have C1:=hid (at_any p hp w)
 rw [h2,ha] at C1
 have C2:=hid (q_word hl w h)
 have hz:=h.u _ (getD_in_f hl)
 obtain ⟨gh,rfl⟩:=h.ptr
 obtain ⟨z,hzz⟩ : ∃ z,z = ws.getD a 0:=⟨_,rfl⟩
 rw [<- hzz] at hz h8 C2 ⊢
 have C3:=hid (headof_any z hz w)
 rw [h8] at C3
 obtain ⟨kd,hkd⟩ : ∃ k,k = typR z:=⟨_,rfl⟩
 obtain ⟨sz,hsz⟩ : ∃ k,k = hasR 8 z:=⟨_,rfl⟩
 rw [<- hkd,<- hsz] at C3 ⊢
 clear h hzz hz h8 hkd hsz h2 ha hl
 go_enter Tryz.func117,Tryz.ntmps117
 go_wp2_with (first
  | (go_at_call 106;(with_reducible refine C1.out.mono ?_);rintro e W1 ⟨rfl,hw1⟩;rw [hw1];clear hw1)
  | (go_at_call 108;(with_reducible refine C2.out.mono ?_);rintro e W1 ⟨rfl,hw1⟩;rw [hw1];clear hw1)
  | (go_at_call 115;(with_reducible refine C3.out.mono ?_);rintro e W1 ⟨rfl,hw1⟩;rw [hw1];clear hw1))
 (try simp only [Exit.inBlock,Exit.then]);refine bodyPost_ret (results_four rfl _ _ _) rfl ?_
 exact ⟨rfl,rfl⟩
theorem isR_zero : isR 8 0 = false:=by unfold isR;simp [ofR,ofRaw,rightB];split <;> simp
theorem q_noobj {p : Int} (hp : U64 p) (hno : isR 2 p = false \/ ∃ a : Nat,hasR 2 p = (a : Int) /\ (ws.length <= a \/ isR 8 (ws.getD a 0) = false)) (w : World) (h : PH B v N ws F w) :
  Calls Tryz.prog 117 #[v,.int .u64 p] w fun e w'=>e = .returned (.tuple #[.int .i64 0,.int .i64 0,.int .i64 0,.int .i64 70]) /\ w' = w:=by
 have C1:=hid (at_any p hp w)
 by_cases h2 : isR 2 p = true
 ·rw [h2] at C1 hno
  obtain ⟨a,ha,hb⟩:=hno.resolve_left (by simp)
  rw [ha] at C1
  obtain ⟨z,C2,hz,h8⟩ : ∃ z,Hid (Calls Tryz.prog 108 #[v,.int .i64 a] w fun e w'=>e = .returned (.int .u64 z) /\ w' = w) /\ U64 z /\ isR 8 z = false:=by
   by_cases hl : a < ws.length
   ·exact ⟨_,q_word hl w h,h.u _ (getD_in_f hl),hb.resolve_left (by omega)⟩
   ·exact ⟨0,q_noword (by omega) w h,by unfold U64;omega,isR_zero⟩
  obtain ⟨gh,rfl⟩:=h.ptr
  have C3:=hid (headof_any z hz w)
  rw [h8] at C3
  obtain ⟨kd,hkd⟩ : ∃ k,k = typR z:=⟨_,rfl⟩
  obtain ⟨sz,hsz⟩ : ∃ k,k = hasR 8 z:=⟨_,rfl⟩
  rw [<- hkd,<- hsz] at C3
  clear h hz h8 hkd hsz h2 ha hb hno
  go_enter Tryz.func117,Tryz.ntmps117
  go_wp2_with (first
   | (go_at_call 106;(with_reducible refine C1.out.mono ?_);rintro e W1 ⟨rfl,hw1⟩;rw [hw1];clear hw1)
   | (go_at_call 108;(with_reducible refine C2.out.mono ?_);rintro e W1 ⟨rfl,hw1⟩;rw [hw1];clear hw1)
   | (go_at_call 115;(with_reducible refine C3.out.mono ?_);rintro e W1 ⟨rfl,hw1⟩;rw [hw1];clear hw1))
  (try simp only [Exit.inBlock,Exit.then]);refine bodyPost_ret (results_four rfl _ _ _) rfl ?_
  exact ⟨rfl,rfl⟩
 ·have h2' : isR 2 p = false := by simpa using h2
  rw [h2'] at C1
  obtain ⟨a,ha⟩ : ∃ k,k = hasR 2 p:=⟨_,rfl⟩
  rw [<- ha] at C1
  obtain ⟨gh,rfl⟩:=h.ptr
  clear h hno h2 h2' ha
  go_enter Tryz.func117,Tryz.ntmps117
  go_wp2_with (go_at_call 106;(with_reducible refine C1.out.mono ?_);rintro e W1 ⟨rfl,hw1⟩;rw [hw1];clear hw1)
  (try simp only [Exit.inBlock,Exit.then]);refine bodyPost_ret (results_four rfl _ _ _) rfl ?_
  exact ⟨rfl,rfl⟩
end
section
variable {B : Nat} {v : Value} {N : Int} {F : Nat -> Prop} {os : List Ob}
theorem q_some {p : Int} {k : Nat} (ho : OsOk os) (hp : U64 p) (hf : findM os p = some k) (w : World) (h : PH B v N (wordsL os) F w) :
  Calls Tryz.prog 117 #[v,.int .u64 p] w fun e w'=>e = .returned (.tuple #[.int .i64 (atO os k : Nat),.int .i64 (os.getD k default).kind,.int .i64 ((os.getD k default).f.length : Nat),.int .i64 0]) /\ w' = w:=by
 have hbd:=h.bd
 rw [wordsL_length] at hbd
 obtain ⟨h1,h2,h3,h4⟩:=obj_some ho (by omega) hf
 have e8 : isR 8 ((wordsL os).getD (atO os k) 0) = true:=by unfold isR;rw [h4];simp
 have:=q_obj hp h1 h2 (by rw [wordsL_length];exact h3) e8 w h
 unfold typR hasR at this
 rw [h4] at this
 simpa using this
theorem q_none {p : Int} (ho : OsOk os) (hp : U64 p) (hf : findM os p = none) (w : World) (h : PH B v N (wordsL os) F w) :
  Calls Tryz.prog 117 #[v,.int .u64 p] w fun e w'=>e = .returned (.tuple #[.int .i64 0,.int .i64 0,.int .i64 0,.int .i64 70]) /\ w' = w:=by
 have hbd:=h.bd
 rw [wordsL_length] at hbd
 refine q_noobj hp ?_ w h
 rcases obj_none ho (by omega) hp hf with h1 | ⟨a,h1,h2⟩
 ·exact .inl h1
 ·refine .inr ⟨a, h1, ?_⟩
  rw [wordsL_length]
  rcases h2 with h2 | h2
  ·exact .inl h2
  ·exact .inr (decide_eq_false h2)
theorem pkind_any (ho : OsOk os) (p : Int) (hp : U64 p) (w : World) (h : PH B v N (wordsL os) F w) :
  Calls Tryz.prog 73 #[v,.int .u64 p] w fun e w'=>e = .returned (.tuple #[.int .i64 (kindM os p).1,.int .i64 (kindM os p).2]) /\ Below w.heap.size w w':=by
 have H:=hid h
 obtain ⟨gh,rfl⟩:=h.ptr
 clear h
 unfold kindM
 cases hf : findM os p with
 | none =>
  have C:=hid (q_none ho hp hf w H.out)
  simp only
  clear hf H
  go_enter Tryz.func73,Tryz.ntmps73
  go_wp2_with (go_at_call 117;(with_reducible refine C.out.mono ?_);rintro e W1 ⟨rfl,hw1⟩;rw [hw1];clear hw1)
  go_ret2
  exact ⟨rfl,Below.refl _ _⟩
 | some k =>
  have C:=hid (q_some ho hp hf w H.out)
  simp only
  clear hf H
  go_enter Tryz.func73,Tryz.ntmps73
  go_wp2_with (go_at_call 117;(with_reducible refine C.out.mono ?_);rintro e W1 ⟨rfl,hw1⟩;rw [hw1];clear hw1)
  go_ret2
  exact ⟨rfl,Below.refl _ _⟩
theorem psize_any (ho : OsOk os) (p : Int) (hp : U64 p) (w : World) (h : PH B v N (wordsL os) F w) :
  Calls Tryz.prog 153 #[v,.int .u64 p] w fun e w'=>e = .returned (.tuple #[.int .i64 (sizeM os p).1,.int .i64 (sizeM os p).2]) /\ Below w.heap.size w w':=by
 have H:=hid h
 obtain ⟨gh,rfl⟩:=h.ptr
 clear h
 unfold sizeM
 cases hf : findM os p with
 | none =>
  have C:=hid (q_none ho hp hf w H.out)
  simp only
  clear hf H
  go_enter Tryz.func153,Tryz.ntmps153
  go_wp2_with (go_at_call 117;(with_reducible refine C.out.mono ?_);rintro e W1 ⟨rfl,hw1⟩;rw [hw1];clear hw1)
  go_ret2
  exact ⟨rfl,Below.refl _ _⟩
 | some k =>
  have C:=hid (q_some ho hp hf w H.out)
  simp only
  clear hf H
  go_enter Tryz.func153,Tryz.ntmps153
  go_wp2_with (go_at_call 117;(with_reducible refine C.out.mono ?_);rintro e W1 ⟨rfl,hw1⟩;rw [hw1];clear hw1)
  go_ret2
  exact ⟨rfl,Below.refl _ _⟩
theorem q_field {p kind i : Int} {k : Nat} (ho : OsOk os) (hp : U64 p) (hk : Z64 kind) (hi : Z64 i) (hf : fieldM os p kind i = ((k : Int),0)) (w : World) (h : PH B v N (wordsL os) F w) :
  Calls Tryz.prog 71 #[v,.int .u64 p,.int .i64 kind,.int .i64 i] w fun e w'=>e = .returned (.tuple #[.int .i64 ((atO os k : Nat) + 1 + i),.int .i64 0]) /\ w' = w:=by
 obtain ⟨k',e1,hkl,hfd,h0,h1⟩:=fieldM_ok (os:=os) (p:=p) (kind:=kind) (i:=i) (by rw [hf])
 rw [hf] at e1
 obtain rfl : k = k':=by have:=congrArg Prod.fst e1;exact Int.ofNat.inj this
 have hkk : kind = 0 \/ kind = (os.getD k default).kind:=by
  unfold fieldM at hf
  rw [hfd] at hf
  simp only at hf
  by_cases hc : kind ≠ 0 /\ (os.getD k default).kind ≠ kind
  ·rw [if_pos hc] at hf;simp at hf
  ·by_cases h0 : kind = 0
   ·exact .inl h0
   ·exact .inr (Classical.byContradiction fun h=>hc ⟨h0,fun e=>h e.symm⟩)
 have C:=hid (q_some ho hp hfd w h)
 have hbd:=h.bd
 rw [wordsL_length] at hbd
 have hal:=at_lt hkl
 obtain ⟨j,rfl⟩ : ∃ j : Nat,i = (j : Int):=⟨i.toNat,by omega⟩
 have CI:=hid (q_in (k:=atO os k + 1 + j) (by rw [wordsL_length];omega) w h)
 obtain ⟨gh,rfl⟩:=h.ptr
 have hxk:=ho.kd _ (getD_in_os hkl)
 obtain ⟨x,hx⟩ : ∃ x,x = os.getD k default:=⟨_,rfl⟩
 rw [<- hx] at C hkk hal h1 hxk
 obtain ⟨a,ha⟩ : ∃ a,a = atO os k:=⟨_,rfl⟩
 rw [<- ha] at C CI hal ⊢
 obtain ⟨xk,xf⟩:=x
 simp only at C hkk hal h1 hxk
 obtain ⟨fl,hfl⟩ : ∃ q,q = xf.length:=⟨_,rfl⟩
 rw [<- hfl] at C hal h1
 have ecast : Hid (((a + 1 + j : Nat) : Int) = (a : Int) + 1 + j):=by unfold Hid;omega
 rw [ecast.out] at CI
 clear h hx ha hfl hf hfd hkl e1 h0
 unfold Z64 at hk
 rcases hkk with rfl | rfl
 ·go_enter Tryz.func71, Tryz.ntmps71
  go_wp2_with (first
   | (go_at_call 117;(with_reducible refine C.out.mono ?_);rintro e W1 ⟨rfl,hw1⟩;rw [hw1];clear hw1)
   | (go_at_call 118;(with_reducible refine CI.out.mono ?_);rintro e W1 ⟨rfl,hw1⟩;rw [hw1];clear hw1))
  go_ret2
  exact ⟨rfl,rfl⟩
 ·have ek : (kind != kind) = false := by simp
  have ek0 : (kind != 0) = true:=by simp;omega
  go_enter Tryz.func71,Tryz.ntmps71
  go_wp2_with (first
   | (go_at_call 117;(with_reducible refine C.out.mono ?_);rintro e W1 ⟨rfl,hw1⟩;rw [hw1];clear hw1)
   | (go_at_call 118;(with_reducible refine CI.out.mono ?_);rintro e W1 ⟨rfl,hw1⟩;rw [hw1];clear hw1))
  go_ret2
  exact ⟨rfl,rfl⟩
end
section
variable {B : Nat} {v : Value} {N : Int} {F : Nat -> Prop} {os : List Ob}
theorem q_nofield {p kind i : Int} (ho : OsOk os) (hp : U64 p) (hk : Z64 kind) (hi : Z64 i) (hf : (fieldM os p kind i).2 ≠ 0) (w : World) (h : PH B v N (wordsL os) F w) :
  Calls Tryz.prog 71 #[v,.int .u64 p,.int .i64 kind,.int .i64 i] w fun e w'=>e = .returned (.tuple #[.int .i64 0,.int .i64 (fieldM os p kind i).2]) /\ w' = w:=by
 have H:=hid h
 have hbd:=h.bd
 rw [wordsL_length] at hbd
 obtain ⟨gh,rfl⟩:=h.ptr
 clear h
 cases hfd : findM os p with
 | none =>
  have e1 : (fieldM os p kind i).2 = 70:=by unfold fieldM;rw [hfd]
  rw [e1]
  have C:=hid (q_none ho hp hfd w H.out)
  clear hfd H hf e1
  go_enter Tryz.func71,Tryz.ntmps71
  go_wp2_with (go_at_call 117;(with_reducible refine C.out.mono ?_);rintro e W1 ⟨rfl,hw1⟩;rw [hw1];clear hw1)
  go_ret2
  exact ⟨rfl,rfl⟩
 | some k =>
  have C:=hid (q_some ho hp hfd w H.out)
  have hkl:=(findM_lt hfd).1
  have hal:=at_lt hkl
  have hxk:=ho.kd _ (getD_in_os hkl)
  have hfe : Hid (fieldM os p kind i = if kind ≠ 0 /\ (os.getD k default).kind ≠ kind then (0,70) else if i < 0 \/ ((os.getD k default).f.length : Int) <= i then (0,2) else ((k : Int),0)):=by unfold Hid fieldM;rw [hfd]
  obtain ⟨x,hx⟩ : ∃ x,x = os.getD k default:=⟨_,rfl⟩
  rw [<- hx] at C hal hxk hfe
  obtain ⟨a,ha⟩ : ∃ a,a = atO os k:=⟨_,rfl⟩
  rw [<- ha] at C hal
  obtain ⟨xk,xf⟩:=x
  simp only at C hal hxk hfe
  obtain ⟨fl,hfl⟩ : ∃ q,q = xf.length:=⟨_,rfl⟩
  rw [<- hfl] at C hal hfe
  unfold Z64 at hk hi
  clear hx ha hfl hfd hkl H
  by_cases h1 : kind ≠ 0 /\ xk ≠ kind
  ·have e1 := hfe.out.trans (if_pos h1)
   rw [e1]
   obtain ⟨h2,h3⟩:=h1
   have ek : (kind != xk) = true:=by simp;omega
   have ek0 : (kind != 0) = true:=by simp;omega
   clear hf hfe e1
   go_enter Tryz.func71,Tryz.ntmps71
   go_wp2_with (go_at_call 117;(with_reducible refine C.out.mono ?_);rintro e W1 ⟨rfl,hw1⟩;rw [hw1];clear hw1)
   go_ret2
   exact ⟨rfl,rfl⟩
  ·by_cases h2 : i < 0 \/ (fl : Int) <= i
   ·have e1 := hfe.out.trans ((if_neg h1).trans (if_pos h2))
    rw [e1]
    clear hf hfe e1
    by_cases hk0 : kind = 0
    ·subst hk0
     by_cases h3 : i < 0
     ·go_enter Tryz.func71, Tryz.ntmps71
      go_wp2_with (go_at_call 117;(with_reducible refine C.out.mono ?_);rintro e W1 ⟨rfl,hw1⟩;rw [hw1];clear hw1)
      go_ret2
      exact ⟨rfl,rfl⟩
     ·have h4 : (fl : Int) <= i := by omega
      go_enter Tryz.func71,Tryz.ntmps71
      go_wp2_with (go_at_call 117;(with_reducible refine C.out.mono ?_);rintro e W1 ⟨rfl,hw1⟩;rw [hw1];clear hw1)
      go_ret2
      exact ⟨rfl,rfl⟩
    ·obtain rfl : kind = xk := by omega
     have ek : (kind != kind) = false:=by simp
     have ek0 : (kind != 0) = true:=by simp;omega
     by_cases h3 : i < 0
     ·go_enter Tryz.func71, Tryz.ntmps71
      go_wp2_with (go_at_call 117;(with_reducible refine C.out.mono ?_);rintro e W1 ⟨rfl,hw1⟩;rw [hw1];clear hw1)
      go_ret2
      exact ⟨rfl,rfl⟩
     ·have h4 : (fl : Int) <= i := by omega
      go_enter Tryz.func71,Tryz.ntmps71
      go_wp2_with (go_at_call 117;(with_reducible refine C.out.mono ?_);rintro e W1 ⟨rfl,hw1⟩;rw [hw1];clear hw1)
      go_ret2
      exact ⟨rfl,rfl⟩
   ·exact absurd (by rw [hfe.out,if_neg h1,if_neg h2]) hf
theorem pget_any (ho : OsOk os) (p kind i : Int) (hp : U64 p) (hk : Z64 kind) (hi : Z64 i) (w : World) (h : PH B v N (wordsL os) F w) :
  Calls Tryz.prog 156 #[v,.int .u64 p,.int .i64 kind,.int .i64 i] w fun e w'=>e = .returned (.tuple #[.int .u64 (getM os p kind i).1,.int .i64 (getM os p kind i).2]) /\ Below w.heap.size w w':=by
 by_cases hf : (fieldM os p kind i).2 = 0
 ·obtain ⟨k, e1, hkl, hfd, h0, h1⟩ := fieldM_ok hf
  have C:=hid (q_field ho hp hk hi e1 w h)
  have e2 : getM os p kind i = ((os.getD k default).f.getD i.toNat 0,0):=by unfold getM;rw [if_pos hf,e1];rfl
  rw [e2]
  have hal:=at_lt hkl
  obtain ⟨j,rfl⟩ : ∃ j : Nat,i = (j : Int):=⟨i.toNat,by omega⟩
  rw [Int.toNat_natCast]
  have e3:=word_field (os:=os) (k:=k) (j:=j) hkl (by omega)
  obtain ⟨gh,gw,n,rest,rfl,hp⟩:=h.opened
  have c0:=hp.c0
  have cw:=hp.word' (i:=atO os k + 1 + j) (by rw [wordsL_length];omega)
  rw [e3] at cw
  have hul:=hp.used_le
  have hnn:=hp.nn
  have hbd:=hp.bd
  rw [wordsL_length] at hul hbd
  obtain ⟨z,hz⟩ : ∃ z,z = (os.getD k default).f.getD j 0:=⟨_,rfl⟩
  rw [<- hz] at cw ⊢
  obtain ⟨a,ha⟩ : ∃ a,a = atO os k:=⟨_,rfl⟩
  rw [<- ha] at C cw hal
  have hlt : a + 1 + j < n:=by omega
  have e4 : ((a : Int) + 1 + j) = ((a + 1 + j : Nat) : Int):=by omega
  rw [e4] at C
  obtain ⟨q,hq⟩ : ∃ q,q = a + 1 + j:=⟨_,rfl⟩
  rw [<- hq] at C cw hlt
  simp only
  clear h hp hz ha e1 e2 e3 e4 hf hfd hkl hk hi h0 h1 hal hq
  go_enter Tryz.func156,Tryz.ntmps156
  go_wp2_with (go_at_call 71;(with_reducible refine C.out.mono ?_);rintro e W1 ⟨rfl,hw1⟩;rw [hw1];clear hw1)
  go_ret2
  exact ⟨rfl,Below.refl _ _⟩
 ·have C := hid (q_nofield ho hp hk hi hf w h)
  have e2 : getM os p kind i = (0,(fieldM os p kind i).2):=by unfold getM;rw [if_neg hf]
  rw [e2]
  obtain ⟨gh,rfl⟩:=h.ptr
  obtain ⟨q,hq⟩ : ∃ q,q = (fieldM os p kind i).2:=⟨_,rfl⟩
  rw [<- hq] at C hf ⊢
  simp only
  have ek : (q != 0) = true:=by simp;omega
  clear h hq e2
  go_enter Tryz.func156,Tryz.ntmps156
  go_wp2_with (go_at_call 71;(with_reducible refine C.out.mono ?_);rintro e W1 ⟨rfl,hw1⟩;rw [hw1];clear hw1)
  go_ret2
  exact ⟨rfl,Below.refl _ _⟩
theorem q_ishead (z : Int) (hz : U64 z) (w : World) : Calls Tryz.prog 66 #[.int .u64 z] w fun e w'=>e = .returned (.bool (isHd z)) /\ w' = w:=by
 have C:=hid (headof_any z hz w)
 have e0 : isR 8 z = isHd z:=rfl
 rw [e0] at C
 obtain ⟨b,hb⟩ : ∃ b,b = isHd z:=⟨_,rfl⟩
 obtain ⟨kd,hkd⟩ : ∃ k,k = typR z:=⟨_,rfl⟩
 obtain ⟨sz,hsz⟩ : ∃ k,k = hasR 8 z:=⟨_,rfl⟩
 rw [<- hb,<- hkd,<- hsz] at C
 rw [<- hb]
 clear hb hkd hsz e0
 go_enter Tryz.func66,Tryz.ntmps66
 go_wp2_with (go_at_call 115;(with_reducible refine C.out.mono ?_);rintro e W1 ⟨rfl,hw1⟩;rw [hw1];clear hw1)
 go_ret
 exact ⟨rfl,rfl⟩
theorem istype_any (k : Int) (hk : Z64 k) (w : World) : Calls Tryz.prog 65 #[.int .i64 k] w fun e w'=>e = .returned (.bool (!decide (k < 1 \/ 22 < k))) /\ w' = w:=by
 by_cases h1 : k < 1
 ·have hd : decide (k < 1 \/ 22 < k) = true := decide_eq_true (.inl h1)
  rw [hd]
  go_enter Tryz.func65,Tryz.ntmps65
  go_wp2
  go_ret
  exact ⟨rfl,rfl⟩
 ·by_cases h2 : 22 < k
  ·have hd : decide (k < 1 \/ 22 < k) = true := decide_eq_true (.inr h2)
   rw [hd]
   have e1 : decide (k <= 22) = false:=decide_eq_false (by omega)
   clear hd
   go_enter Tryz.func65,Tryz.ntmps65
   go_wp2
   go_ret
   exact ⟨rfl,rfl⟩
  ·have hd : decide (k < 1 \/ 22 < k) = false := decide_eq_false (by omega)
   rw [hd]
   have e1 : decide (k <= 22) = true:=decide_eq_true (by omega)
   clear hd
   go_enter Tryz.func65,Tryz.ntmps65
   go_wp2
   go_ret
   exact ⟨rfl,rfl⟩
theorem words_set {k j : Nat} (h : k < os.length) (hj : j < (os.getD k default).f.length) (z : Int) : wordsL (os.set k (setF (os.getD k default) j z)) = (wordsL os).set (atO os k + 1 + j) z:=by
 have e1 : os = os.take k ++ (os.getD k default :: os.drop (k + 1)):=by
  have:=(List.take_append_drop k os).symm
  rw [List.drop_eq_getElem_cons h] at this
  rw [List.getD_eq_getElem?_getD,List.getElem?_eq_getElem h];exact this
 have hkl : (os.take k).length = k:=by rw [List.length_take];omega
 have e2 : os.set k (setF (os.getD k default) j z) = os.take k ++ (setF (os.getD k default) j z :: os.drop (k + 1)):=by
  rw [List.set_eq_take_append_cons_drop,if_pos h]
 have hat : (wordsL (os.take k)).length = atO os k:=by rw [wordsL_length];rfl
 rw [e2]
 conv=>rhs;rw [e1]
 rw [wordsL_append,wordsL_append,List.set_append_right _ _ (by rw [hat];unfold atO;rw [<- e1];omega)]
 have hat2 : atO (os.take k ++ (os.getD k default :: os.drop (k + 1))) k = atO os k:=by rw [<- e1]
 rw [hat2,hat,show atO os k + 1 + j - atO os k = j + 1 by omega]
 simp only [wordsL,List.set_cons_succ,setF,List.length_set]
 rw [List.set_append_left _ _ hj]
theorem pset_any (ho : OsOk os) (p kind i z : Int) (hp : U64 p) (hk : Z64 kind) (hi : Z64 i) (hz : U64 z) (w : World) (h : PH B v N (wordsL os) F w) (hB : B <= w.heap.size) :
  Calls Tryz.prog 36 #[v,.int .u64 p,.int .i64 kind,.int .i64 i,.int .u64 z] w fun e w'=>e = .returned (.int .i64 (setM os p kind i z).2) /\ PPost B v N F w (wordsL (setM os p kind i z).1) w':=by
 have same : PPost B v N F w (wordsL os) w:=⟨F,h,fun b hb=>.inl hb,Mod.refl F w⟩
 by_cases hf : (fieldM os p kind i).2 = 0
 ·obtain ⟨k, e1, hkl, hfd, h0, h1⟩ := fieldM_ok hf
  have C:=hid (q_field ho hp hk hi e1 w h)
  have CH:=hid (q_ishead z hz w)
  by_cases h8 : isHd z = true
  ·have e2 : setM os p kind i z = (os, 1) := by
    unfold setM;rw [if_neg (by simpa using hf),if_pos (of_decide_eq_true h8)]
   rw [e2]
   rw [h8] at CH
   obtain ⟨gh,rfl⟩:=h.ptr
   have S:=hid same
   obtain ⟨q,hq⟩ : ∃ q,q = ((atO os k : Nat) : Int) + 1 + i:=⟨_,rfl⟩
   rw [<- hq] at C
   simp only
   clear h hq e1 e2 hf hfd hkl hk hi h0 h1 same hz h8
   go_enter Tryz.func36,Tryz.ntmps36
   go_wp2_with (first
    | (go_at_call 71;(with_reducible refine C.out.mono ?_);rintro e W1 ⟨rfl,hw1⟩;rw [hw1];clear hw1)
    | (go_at_call 66;(with_reducible refine CH.out.mono ?_);rintro e W1 ⟨rfl,hw1⟩;rw [hw1];clear hw1))
   go_ret
   exact ⟨rfl,S.out⟩
  ·have h8' : isHd z = false := by simpa using h8
   have e2 : setM os p kind i z = (os.set k (setF (os.getD k default) i.toNat z),0):=by
    unfold setM;rw [if_neg (by simpa using hf),if_neg (of_decide_eq_false h8'),e1];rfl
   rw [e2]
   rw [h8'] at CH
   have hal:=at_lt hkl
   obtain ⟨j,rfl⟩ : ∃ j : Nat,i = (j : Int):=⟨i.toNat,by omega⟩
   rw [Int.toNat_natCast]
   simp only
   rw [words_set hkl (by omega)]
   obtain ⟨gh,gw,n,rest,rfl,hp⟩:=h.opened
   have HP:=hid hp
   have hbd:=hp.bd
   have hul:=hp.used_le
   rw [wordsL_length] at hbd hul
   have hlw : Hid (atO os k + 1 + j < (wordsL os).length):=by unfold Hid;rw [wordsL_length];omega
   have c0:=hp.c0
   have cw:=hp.word' hlw.out
   have fw:=blk_free hp.row (atO os k + 1 + j)
   have hnn:=hp.nn
   have HZ:=hid hz
   have e4 : (((atO os k : Nat) : Int) + 1 + j) = ((atO os k + 1 + j : Nat) : Int):=by omega
   rw [e4] at C
   have hlt : atO os k + 1 + j < n:=by omega
   obtain ⟨q,hq⟩ : ∃ q,q = atO os k + 1 + j:=⟨_,rfl⟩
   rw [<- hq] at C cw fw hlt hlw ⊢
   obtain ⟨y,hy⟩ : ∃ y,y = (wordsL os).getD q 0:=⟨_,rfl⟩
   rw [<- hy] at cw
   clear h hp hy hq e1 e2 e4 hf hfd hkl hk hi h0 h1 same hz h8 h8' hal
   go_enter Tryz.func36,Tryz.ntmps36
   go_wp2_with (first
    | (go_at_call 71;(with_reducible refine C.out.mono ?_);rintro e W1 ⟨rfl,hw1⟩;rw [hw1];clear hw1)
    | (go_at_call 66;(with_reducible refine CH.out.mono ?_);rintro e W1 ⟨rfl,hw1⟩;rw [hw1];clear hw1))
   go_ret
   obtain ⟨q1,q2⟩:=HP.out.put hlw.out HZ.out
   exact ⟨rfl,F,q1.shut,fun b hb=>.inl hb,q2⟩
 ·have C := hid (q_nofield ho hp hk hi hf w h)
  have e2 : setM os p kind i z = (os,(fieldM os p kind i).2):=by unfold setM;rw [if_pos hf]
  rw [e2]
  obtain ⟨gh,rfl⟩:=h.ptr
  obtain ⟨q,hq⟩ : ∃ q,q = (fieldM os p kind i).2:=⟨_,rfl⟩
  rw [<- hq] at C hf ⊢
  simp only
  have ek : (q != 0) = true:=by simp;omega
  have S:=hid same
  clear h hq e2 same
  go_enter Tryz.func36,Tryz.ntmps36
  go_wp2_with (go_at_call 71;(with_reducible refine C.out.mono ?_);rintro e W1 ⟨rfl,hw1⟩;rw [hw1];clear hw1)
  go_ret
  exact ⟨rfl,S.out⟩
end
end Go.Proofs.YticimejfjjmikaaGreatDoor
