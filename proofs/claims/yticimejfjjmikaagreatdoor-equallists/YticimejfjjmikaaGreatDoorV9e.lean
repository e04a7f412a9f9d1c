import Derived.Test.YticimejfjjmikaaGreatDoorV9b
import Derived.Laws.CopyRow
import Derived.Laws.IdiomCopy
set_option linter.unusedVariables false
set_option linter.unusedSimpArgs false
set_option maxRecDepth 100000
namespace Go.Proofs.YticimejfjjmikaaGreatDoor
open Go.RowKit
theorem q_any_at {fl : List Int} {q : Nat} (hq : q < fl.length) (hz : isHd (fl.getD q 0) = true) : fl.any isHd = true :=
 List.any_eq_true.2 ⟨_,getD_in_f hq,hz⟩
set_option maxHeartbeats 2000000 in
theorem index_any (ao : Option Addr) (n cap : Nat) (fl : List Int) (w : World) (R : URow w ao n cap fl) :
  Calls Tryz.prog 144 #[.slice ao n cap,.func (.func 66) #[] #[]] w fun e w'=>∃ r : Int,e = .returned (.int .i64 r) /\ fl.any isHd = decide (0 <= r) /\ w' = w:=by
 have HR:=hid R
 have hf:=R.fits
 have hm:=R.most
 have hln:=R.len
 unfold maxLen at hm
 clear R
 go_enter Tryz.func144,Tryz.ntmps144
 go_wp2_with fail
 go_loop [8] (fun i=>∃ q : Nat,q <= n /\ i = .int .i64 q /\ Hid ((fl.take q).any isHd = false)) (fun i=>n - (intOf i).toNat)
 case atStart=>exact ⟨0,Nat.zero_le _,rfl,by simp [Hid]⟩
 case round =>
  obtain ⟨q,hq,rfl,hI⟩:=hrel
  by_cases hlt : q < n
  ·obtain ⟨b, o, rfl, hlb, hcc⟩ := HR.out.some (by omega)
   have hc:=hcc q hlt
   have hzu:=HR.out.bd _ (getD_in_f (l:=fl) (i:=q) (by omega))
   obtain ⟨z,hz⟩ : ∃ z,z = fl.getD q 0:=⟨_,rfl⟩
   rw [<- hz] at hc hzu
   have HZ:=hid hz
   have C:=hid (q_ishead z hzu w)
   obtain ⟨bb,hbb⟩ : ∃ x,x = isHd z:=⟨_,rfl⟩
   rw [<- hbb] at C
   have HBB:=hid hbb
   clear hcc hz hzu hbb
   cases bb
   ·go_wp2_with (go_at_call 66; (with_reducible refine C.out.mono ?_); rintro e W1 ⟨rfl, hw1⟩; rw [hw1]; clear hw1)
    exact ⟨⟨q + 1,by omega,by go_num,any_take hI.out (by omega) (by rw [<- HZ.out];exact HBB.out.symm)⟩,by simp [intOf] <;> omega⟩
   ·go_wp2_with (go_at_call 66; (with_reducible refine C.out.mono ?_); rintro e W1 ⟨rfl, hw1⟩; rw [hw1]; clear hw1)
    go_ret
    exact ⟨q,rfl,by rw [q_any_at (q:=q) (by omega) (by rw [<- HZ.out];exact HBB.out.symm),decide_eq_true (by omega)],rfl⟩
  ·obtain rfl : q = n := by omega
   go_wp2_with fail
   go_ret
   refine ⟨-1,rfl,?_,rfl⟩
   have:=hI.out
   rw [List.take_of_length_le (by omega)] at this
   rw [this];rfl
theorem contains_any (ao : Option Addr) (n cap : Nat) (fl : List Int) (w : World) (R : URow w ao n cap fl) :
  Calls Tryz.prog 88 #[.slice ao n cap,.func (.func 66) #[] #[]] w fun e w'=>e = .returned (.bool (fl.any isHd)) /\ w' = w:=by
 have C:=hid (index_any ao n cap fl w R)
 clear R
 obtain ⟨b,hb⟩ : ∃ b,b = fl.any isHd:=⟨_,rfl⟩
 rw [<- hb] at C ⊢
 clear hb
 go_enter Tryz.func88,Tryz.ntmps88
 go_wp2_with (go_at_call 144;(with_reducible refine C.out.mono ?_);rintro e W1 ⟨r,rfl,hr,hw1⟩;rw [hw1];clear hw1;have HR:=hid hr;clear hr)
 go_ret
 refine ⟨?_,rfl⟩
 rw [HR.out];rfl
section
variable {B gh gw n : Nat} {N : Int} {ws rest : List Int} {F : Nat -> Prop} {w : World}
theorem layfull (kind size : Int) (hs : N - (ws.length : Nat) <= size) (h : PO B gh gw n N ws rest F w) :
  Calls Tryz.prog 67 #[.pointer (some ⟨gh,0,none⟩),.int .i64 kind,.int .i64 size] w fun e w'=>e = .returned (.tuple #[.int .u64 0,.slice none 0 0,.int .i64 3]) /\ Below w.heap.size w w':=by
 have C:=hid (proom_any w h.shut)
 have e1 : decide (N - (ws.length : Nat) <= size) = true:=decide_eq_true hs
 clear h
 go_enter Tryz.func67,Tryz.ntmps67
 go_wp2_with (go_at_call 86;(with_reducible refine C.out.mono ?_);rintro e W1 ⟨rfl,b1⟩;have HB:=hid b1;clear b1)
 go_ret3
 exact ⟨rfl,HB.out⟩
def LayPost (gh gw n u size : Nat) (pt hd : Int) (ws rest : List Int) (F : Nat -> Prop) (w : World) (e : Ending) (w' : World) : Prop :=
 (∃ off cap,e = .returned (.tuple #[.int .u64 pt,.slice (some ⟨gw,off,none⟩) size cap,.int .i64 0]) /\ (0 < size -> off = u + 1) /\ size <= cap /\ cap <= 4194304) /\
  w'.heap[gh]? = some (.cells #[.slice (some ⟨gw,0,none⟩) n n,.int .i64 ((u + 1 + size : Nat) : Int)] 125 (0,0)) /\ w'.heap[gw]? = some (.cells (uz (ws ++ (hd :: rest.tail))).toArray 44 (0,0)) /\ Mod F w w'
set_option maxHeartbeats 4000000 in
theorem layhead (kind : Int) (size : Nat) (hk : 1 <= kind /\ kind <= 22) (hs : (size : Int) < N - (ws.length : Nat)) (h : PO B gh gw n N ws rest F w) :
  Calls Tryz.prog 67 #[.pointer (some ⟨gh,0,none⟩),.int .i64 kind,.int .i64 size] w fun e w'=>LayPost gh gw n ws.length size (wordR 2 (ws.length : Nat) 0) (wordR 8 size kind) ws rest F w e w':=by
 have HP:=hid h
 have C:=hid (proom_any w h.shut)
 have e1 : decide (N - (ws.length : Nat) <= (size : Int)) = false:=decide_eq_false (by omega)
 have hbd:=h.bd
 have hnn:=h.nn
 subst hnn
 have hul:=h.used_le
 have CH:=hid (fun wx=>head_any (size : Int) kind (by unfold Z64;omega) (by unfold Z64;omega) wx)
 have CP:=hid (fun wx=>ptr_any (ws.length : Nat) (by unfold Z64;omega) wx)
 obtain ⟨hd,hhd⟩ : ∃ x,x = wordR 8 size kind:=⟨_,rfl⟩
 obtain ⟨pt,hpt⟩ : ∃ x,x = wordR 2 (ws.length : Nat) 0:=⟨_,rfl⟩
 rw [<- hhd] at CH ⊢
 rw [<- hpt] at CP ⊢
 obtain ⟨b1,hb1⟩ : ∃ x,x = rightB 8 size kind:=⟨_,rfl⟩
 obtain ⟨b2,hb2⟩ : ∃ x,x = rightB 2 (ws.length : Nat) 0:=⟨_,rfl⟩
 rw [<- hb1] at CH
 rw [<- hb2] at CP
 have hne:=h.ne
 have HNE:=hid hne
 obtain ⟨u,hu⟩ : ∃ u,u = ws.length:=⟨_,rfl⟩
 have hrow : Hid (∀ wx : World,wx.heap[gw]? = some (.cells (uz (ws ++ rest)).toArray 44 (0,0)) -> (wx.setCell ⟨gw,u,none⟩ (.int .u64 hd)).heap[gw]? = some (.cells (uz (ws ++ (hd :: rest.tail))).toArray 44 (0,0))):=fun wx hwx=>by
  rw [blk_set (i:=u) hwx (.int .u64 hd)]
  have hl:=h.len
  rw [List.length_append] at hl
  cases rest with
  | nil=>simp at hl;omega
  | cons y r =>
   have : (uz (ws ++ y :: r)).toArray.setIfInBounds u (.int .u64 hd) = (uz (ws ++ (hd :: r))).toArray:=by
    rw [hu]
    simp [uz,List.map_append,List.set_append_right]
   rw [this];rfl
 have HU:=hid hu
 rw [<- hu] at C CP e1 hs hbd hul ⊢
 clear h hhd hpt hb1 hb2 hu hne
 go_enter Tryz.func67,Tryz.ntmps67
 go_wp2_with (first
  | (go_at_call 86;(with_reducible refine C.out.mono ?_);rintro e W1 ⟨rfl,b1⟩;have HB:=hid b1;have HP1:=hid (HP.out.on b1);have c0:=HP1.out.c0;have c1:=HP1.out.c1;rw [<- HU.out] at c1;clear b1)
  | (go_at_call 111;(with_reducible refine (CP.out _).mono ?_);rintro e W2 ⟨rfl,hw2⟩;rw [hw2];clear hw2))
 have HP2:=hid (HP1.out.on (Bd W1 1))
 have hun : u < n:=by omega
 have hun2 : (u : Int) < (n : Int):=by omega
 have hS0 : W1.drew.cell? ⟨gh,0,none⟩ = some (.slice (some ⟨gw,0,none⟩) n n) /\ W1.drew.cell? ⟨gh,1,none⟩ = some (.int .i64 (u : Nat)):=⟨c0,c1⟩
 refine wp_region_held_drew (S:=fun wx=>wx.cell? ⟨gh,0,none⟩ = some (.slice (some ⟨gw,0,none⟩) n n) /\ wx.cell? ⟨gh,1,none⟩ = some (.int .i64 (u : Nat))) (by kernel_rfl) hS0 (fun hHeld=>?_)
 refine htake 0 (some 25) (.pointer (some ⟨gh,0,none⟩)) rfl rfl (by kernel_rfl) (by kernel_rfl) (by kernel_rfl) (fun _ _ _ h=>h) (Or.inl ⟨by rfl,fun wx hSw=>?_⟩) (by assumption) ?_
 ·go_simp
 simp only [Act.put,List.setIfInBounds_toArray,List.set_cons_zero,List.set_cons_succ]
 refine htake 1 (some 26) (.pointer (some ⟨gh,0,none⟩)) rfl rfl (by kernel_rfl) (by kernel_rfl) (by kernel_rfl) (fun _ _ _ h=>h) (Or.inl ⟨by rfl,fun wx hSw=>?_⟩) (by assumption) ?_
 ·go_simp
 simp only [Act.put,List.setIfInBounds_toArray,List.set_cons_zero,List.set_cons_succ]
 refine htake 2 (some 27) (.pointer (some ⟨gh,0,none⟩)) rfl rfl (by kernel_rfl) (by kernel_rfl) (by kernel_rfl) (fun _ _ _ h=>h) (Or.inl ⟨by rfl,fun wx hSw=>?_⟩) (by assumption) ?_
 ·go_simp
 simp only [Act.put,List.setIfInBounds_toArray,List.set_cons_zero,List.set_cons_succ]
 refine htake 3 (some 28) (.slice (some ⟨gw,0,none⟩) n n) rfl rfl (by kernel_rfl) (by kernel_rfl) (by kernel_rfl) (fun _ _ _ h=>h) (Or.inl ⟨by rfl,fun wx hSw=>?_⟩) (by assumption) ?_
 ·obtain ⟨s1,s2⟩:=hSw;go_simp
 simp only [Act.put,List.setIfInBounds_toArray,List.set_cons_zero,List.set_cons_succ]
 refine htake 4 (some 29) (.pointer (some ⟨gh,0,none⟩)) rfl rfl (by kernel_rfl) (by kernel_rfl) (by kernel_rfl) (fun _ _ _ h=>h) (Or.inl ⟨by rfl,fun wx hSw=>?_⟩) (by assumption) ?_
 ·go_simp
 simp only [Act.put,List.setIfInBounds_toArray,List.set_cons_zero,List.set_cons_succ]
 refine htake 5 (some 30) (.pointer (some ⟨gh,0,none⟩)) rfl rfl (by kernel_rfl) (by kernel_rfl) (by kernel_rfl) (fun _ _ _ h=>h) (Or.inl ⟨by rfl,fun wx hSw=>?_⟩) (by assumption) ?_
 ·go_simp
 simp only [Act.put,List.setIfInBounds_toArray,List.set_cons_zero,List.set_cons_succ]
 refine htake 6 (some 31) (.pointer (some ⟨gh,1,none⟩)) rfl rfl (by kernel_rfl) (by kernel_rfl) (by kernel_rfl) (fun _ _ _ h=>h) (Or.inl ⟨by rfl,fun wx hSw=>?_⟩) (by assumption) ?_
 ·go_simp
 simp only [Act.put,List.setIfInBounds_toArray,List.set_cons_zero,List.set_cons_succ]
 refine htake 7 (some 32) (.int .i64 (u : Nat)) rfl rfl (by kernel_rfl) (by kernel_rfl) (by kernel_rfl) (fun _ _ _ h=>h) (Or.inl ⟨by rfl,fun wx hSw=>?_⟩) (by assumption) ?_
 ·obtain ⟨s1,s2⟩:=hSw;go_simp
 simp only [Act.put,List.setIfInBounds_toArray,List.set_cons_zero,List.set_cons_succ]
 refine htake 8 (some 33) (.int .i64 kind) rfl rfl (by kernel_rfl) (by kernel_rfl) (by kernel_rfl) (fun _ _ _ h=>h) (Or.inl ⟨by rfl,fun wx hSw=>?_⟩) (by assumption) ?_
 ·go_simp
 simp only [Act.put,List.setIfInBounds_toArray,List.set_cons_zero,List.set_cons_succ]
 refine htake 9 (some 34) (.int .i64 (size : Nat)) rfl rfl (by kernel_rfl) (by kernel_rfl) (by kernel_rfl) (fun _ _ _ h=>h) (Or.inl ⟨by rfl,fun wx hSw=>?_⟩) (by assumption) ?_
 ·go_simp
 simp only [Act.put,List.setIfInBounds_toArray,List.set_cons_zero,List.set_cons_succ]
 clear hHeld c0 c1
 refine hone 10 _ rfl (by kernel_rfl) (fun K hK=>?_)
 go_simp
 go_at_call 116
 refine (CH.out _).mono ?_
 rintro e W3 ⟨rfl,hw3⟩
 rw [hw3]
 clear hw3 W3
 refine hK.out _ _ hS0 (fun hHeld=>?_)
 clear hK K
 try simp only [Act.put,List.setIfInBounds_toArray,List.set_cons_zero,List.set_cons_succ]
 refine htake 11 (some 24) (.tuple #[.int .u64 hd,.bool b1]) rfl rfl (by kernel_rfl) (by kernel_rfl) (by kernel_rfl) (fun _ _ _ h=>h) (Or.inl ⟨by rfl,fun wx hSw=>?_⟩) (by assumption) ?_
 ·go_simp
 simp only [Act.put,List.setIfInBounds_toArray,List.set_cons_zero,List.set_cons_succ]
 refine htake 12 (some 36) (.int .u64 hd) rfl rfl (by kernel_rfl) (by kernel_rfl) (by kernel_rfl) (fun _ _ _ h=>h) (Or.inl ⟨by rfl,fun wx hSw=>?_⟩) (by assumption) ?_
 ·go_simp
 simp only [Act.put,List.setIfInBounds_toArray,List.set_cons_zero,List.set_cons_succ]
 refine htake 13 (some 37) (.bool b1) rfl rfl (by kernel_rfl) (by kernel_rfl) (by kernel_rfl) (fun _ _ _ h=>h) (Or.inl ⟨by rfl,fun wx hSw=>?_⟩) (by assumption) ?_
 ·go_simp
 simp only [Act.put,List.setIfInBounds_toArray,List.set_cons_zero,List.set_cons_succ]
 refine htake 14 (some 38) (.pointer (some ⟨gw,u,none⟩)) rfl rfl (by kernel_rfl) (by kernel_rfl) (by kernel_rfl) (fun _ _ _ h=>h) (Or.inl ⟨by rfl,fun wx hSw=>?_⟩) (by assumption) ?_
 ·go_simp
 simp only [Act.put,List.setIfInBounds_toArray,List.set_cons_zero,List.set_cons_succ]
 have cw:=HP1.out.word (i:=u) (by omega)
 have fw:=blk_free HP1.out.row u
 refine hone 15 _ rfl (by kernel_rfl) (fun K hK=>?_)
 go_simp
 refine hK.out _ _ ⟨?_,?_⟩ (fun _=>?_)
 ·exact (World.cell?_of_block (w:=W1) (a:=⟨gh,0,none⟩) (Below.heap_setCell W1 ⟨gw,u,none⟩ (.int .u64 hd) gh HNE.out)).trans hS0.1
 ·exact (World.cell?_of_block (w:=W1) (a:=⟨gh,1,none⟩) (Below.heap_setCell W1 ⟨gw,u,none⟩ (.int .u64 hd) gh HNE.out)).trans hS0.2
 clear hK K cw fw
 have hg3 : Hid ((W1.setCell ⟨gw,u,none⟩ (.int .u64 hd)).drew.heap[gh]? = some (.cells #[.slice (some ⟨gw,0,none⟩) n n,.int .i64 (u : Nat)] 125 (0,0))):=(Below.heap_setCell _ _ _ _ HNE.out).trans (by rw [HU.out];exact HP1.out.box)
 have hr3 : Hid ((W1.setCell ⟨gw,u,none⟩ (.int .u64 hd)).drew.heap[gw]? = _):=hrow.out _ HP1.out.row
 have hm3 : Hid (Mod F w ((W1.setCell ⟨gw,u,none⟩ (.int .u64 hd)).drew)):=((Mod.of_below F HB.out).setCell (p:=⟨gw,u,none⟩) (.inl ((HP.out.ff gw).2 (.inr rfl))) (.int .u64 hd)).trans (Mod.of_below F (Bd _ 1)) (fun b _ h=>h)
 refine wpAnyH_done (by kernel_rfl) ?_ _
 obtain ⟨W3,hW3⟩ : ∃ W,W = (W1.setCell ⟨gw,u,none⟩ (.int .u64 hd)).drew:=⟨_,rfl⟩
 rw [<- hW3] at hg3 hr3 hm3 ⊢
 clear hW3 hS0 hrow
 have c1 : W3.cell? ⟨gh,1,none⟩ = some (.int .i64 (u : Nat)):=blk_cell hg3.out 1
 have f1:=blk_free hg3.out 1
 have hb4 : Hid ((W3.setCell ⟨gh,1,none⟩ (.int .i64 (u + 1 + size))).heap[gh]? = some (.cells #[.slice (some ⟨gw,0,none⟩) n n,.int .i64 (u + 1 + size)] 125 (0,0))):=by
  unfold Hid
  rw [blk_set (i:=1) hg3.out];rfl
 have d0 : (W3.setCell ⟨gh,1,none⟩ (.int .i64 (u + 1 + size))).cell? ⟨gh,0,none⟩ = some (.slice (some ⟨gw,0,none⟩) n n):=blk_cell hb4.out 0
 have d1 : (W3.setCell ⟨gh,1,none⟩ (.int .i64 (u + 1 + size))).cell? ⟨gh,1,none⟩ = some (.int .i64 (u + 1 + size)):=blk_cell hb4.out 1
 go_wp2_with fail
 have ht : ((u : Int) + 1).toNat = u + 1:=by omega
 have ht2 : ((u : Int) + 1 + size).toNat = u + 1 + size:=by omega
 have hend : Hid (∀ q,(W3.setCell ⟨gh,1,none⟩ (.int .i64 (u + 1 + size))).heap[gh]? = some (.cells #[.slice (some ⟨gw,0,none⟩) n n,.int .i64 ((u + 1 + size : Nat) : Int)] 125 (0,0)) /\ (W3.setCell ⟨gh,1,none⟩ (.int .i64 (u + 1 + size))).heap[gw]? = some (.cells (uz (ws ++ (hd :: rest.tail))).toArray 44 (0,0)) /\ Mod F w ((W3.setCell ⟨gh,1,none⟩ (.int .i64 (u + 1 + size))).drewN q)):=fun q =>
  ⟨hb4.out,(Below.heap_setCell W3 ⟨gh,1,none⟩ (.int .i64 (u + 1 + size)) gw (fun e=>HNE.out e.symm)).trans hr3.out,(hm3.out.setCell (p:=⟨gh,1,none⟩) (.inl ((HP.out.ff gh).2 (.inl rfl))) (.int .i64 (u + 1 + size))).trans (Mod.of_below F (Bd _ _)) (fun b _ h=>h)⟩
 have hbig : Hid (size <= n - (u + 1) /\ n - (u + 1) <= 4194304):=by unfold Hid;omega
 by_cases hc : n <= u + 1
 ·have hz : Hid (size = 0) := by unfold Hid; omega
  go_quiet (fail)
  go_wp2
  go_ret3
  exact ⟨⟨0,_,rfl,fun h=>by have:=hz.out;omega,by have:=hz.out;omega,by omega⟩,hend.out _⟩
 ·go_quiet (fail)
  go_wp2
  go_ret3
  exact ⟨⟨u + 1,_,rfl,fun _=>rfl,hbig.out⟩,hend.out _⟩
end
theorem word_one : (Tryz.prog.info? 44).map (·.size) = some 1:=by
 have hi:=info_word
 cases h : Tryz.prog.info? 44 with
 | none=>rw [h] at hi;cases hi
 | some i=>rw [h] at hi;simp at hi;simp [hi.2.1]
theorem copy_words {w : World} {gw off cap : Nat} {A C fl : List Int} (hr : w.heap[gw]? = some (.cells (uz (A ++ C)).toArray 44 (0,0))) (hoff : 0 < fl.length -> off = A.length) (hC : fl.length <= C.length)
  {ao : Option Addr} {n c : Nat} (R : URow w ao n c fl) :
  ∃ w',(∀ ty,(Builtin.copy_ #[23,23] ty #[.slice (some ⟨gw,off,none⟩) n cap,.slice ao n c]).run Tryz.prog w = .ok (goInt n) w') /\ w'.heap[gw]? = some (.cells (uz (A ++ (fl ++ C.drop fl.length))).toArray 44 (0,0)) /\ Mod (fun b=>b = gw) w w':=by
 by_cases h0 : fl.length = 0
 ·have hn : n = 0 := by rw [<- R.len]; exact h0
  subst hn
  have hf : fl = []:=List.length_eq_zero_iff.1 h0
  subst hf
  exact ⟨w,fun ty=>run_copy_none w _ _ ty 44 _ _ 0 cap 0 c Tryz.underlying23 word_one rfl,by simpa using hr,Mod.refl _ _⟩
 ·have ho := hoff (by omega)
  subst ho
  obtain ⟨b,o,rfl,hlb,hcc⟩:=R.some (by have:=R.len;omega)
  have hlen : (uz fl).length = n:=by rw [uz_length,R.len]
  have hsz : (uz (A ++ C)).toArray.size = A.length + C.length:=by simp [uz]
  have hrun:=fun ty=>run_copy_row (P:=Tryz.prog) w 23 23 ty 44 gw A.length n cap ⟨b,o,none⟩ n c (uz (A ++ C)).toArray 44 (uz fl) Tryz.underlying23 word_one hr (by rw [hlen];exact (Nat.min_self n).symm)
   (fun j v hj=>by
    have hjl : j < fl.length:=by
     have:=(List.getElem?_eq_some_iff.1 hj).1
     rwa [uz_length] at this
    rw [uz_get hjl] at hj
    cases hj
    have:=hcc j (by have:=R.len;omega)
    unfold Addr.add
    by_cases hj0 : j = 0
    ·subst hj0;simpa using this
    ·rw [if_neg hj0];exact this)
   (by rw [hsz,uz_length];omega)
   (fun v hv=>by unfold uz at hv;obtain ⟨z,_,rfl⟩:=List.mem_map.1 hv;rfl)
  refine ⟨_,fun ty=>by have:=hrun ty;rw [hlen] at this;exact this,?_,?_⟩
  ·rw [setRow_heap w gw _ _ _ _ hr]
   have e1 : (uz (A ++ C)).toArray.toList.take A.length ++ uz fl ++ (uz (A ++ C)).toArray.toList.drop (A.length + n) = uz (A ++ (fl ++ C.drop fl.length)):=by
    have h1 : (uz (A ++ C)).toArray.toList = uz A ++ uz C:=by rw [<- uz_append]
    have h2 : (uz A).length = A.length:=uz_length A
    rw [h1,<- h2,List.take_left,List.drop_append,uz_append,uz_append,R.len]
    have h3 : (uz A).drop ((uz A).length + n) = []:=List.drop_eq_nil_of_le (by omega)
    have h4 : (uz A).length + n - (uz A).length = n:=by omega
    have h5 : (uz C).drop n = uz (C.drop n):=by unfold uz;rw [List.map_drop]
    rw [h3,h4,List.nil_append,h5,List.append_assoc]
   rw [e1]
  ·refine ⟨rfl, rfl, rfl, ?_, fun j _ hj => setRow_other w gw j _ hj⟩
   simp [World.setRow]
section
variable {B gh gw n : Nat} {N : Int} {ws rest : List Int} {F : Nat -> Prop} {w : World}
theorem lay_shut {w' : World} (h : PO B gh gw n N ws rest F w) {hd : Int} {fl : List Int} (hs : (fl.length : Int) < N - (ws.length : Nat)) (hhd : U64 hd) (hfl : ∀ z∈fl,U64 z)
  (hb : w'.heap[gh]? = some (.cells #[.slice (some ⟨gw,0,none⟩) n n,.int .i64 ((ws.length + 1 + fl.length : Nat) : Int)] 125 (0,0)))
  (hr : w'.heap[gw]? = some (.cells (uz (ws ++ (hd :: (fl ++ rest.tail.drop fl.length)))).toArray 44 (0,0))) :
  PO B gh gw n N (ws ++ hd :: fl) (rest.tail.drop fl.length) F w':=by
 have hl:=h.len
 have hnn:=h.nn
 rw [List.length_append] at hl
 have hrt : rest.tail.length = rest.length - 1:=List.length_tail
 have e0 : (ws ++ hd :: fl).length = ws.length + 1 + fl.length:=by rw [List.length_append,List.length_cons];omega
 refine { h with box:=?_,row:=?_,len:=?_,bd:=?_,u:=?_ }
 ·rw [e0];exact hb
 ·rw [hr];simp
 ·rw [List.length_append,e0,List.length_drop];omega
 ·rw [e0];have:=h.bd;omega
 ·intro z hz
  rcases List.mem_append.1 hz with hz | hz
  ·exact h.u z hz
  ·rcases List.mem_cons.1 hz with rfl | hz
   ·exact hhd
   ·exact hfl z hz
end
section
variable {B : Nat} {v : Value} {N : Int} {F : Nat -> Prop} {os : List Ob}
theorem alloc_words (kind : Int) (fl : List Int) (h : (allocM os N kind fl).2 = 0) : wordsL (allocO os N kind fl) = wordsL os ++ wordR 8 (fl.length : Nat) kind :: fl:=by
 unfold allocO;rw [if_pos h,wordsL_append];simp [wordsL]
set_option maxHeartbeats 8000000 in
theorem palloc_any (ho : OsOk os) (kind : Int) (hk : Z64 kind) (ao : Option Addr) (n cap : Nat) (fl : List Int) (w : World) (h : PH B v N (wordsL os) F w) (R : URow w ao n cap fl) (hB : B <= w.heap.size) (ha : ∀ a,ao = some a -> ¬ F a.block) (hsm : n <= 1000000) :
  Calls Tryz.prog 47 #[v,.int .i64 kind,.slice ao n cap] w fun e w'=>e = .returned (.tuple #[.int .u64 (allocM os N kind fl).1,.int .i64 (allocM os N kind fl).2]) /\ PPost B v N F w (wordsL (allocO os N kind fl)) w':=by
 have C1:=hid (istype_any kind hk w)
 have C2:=hid (contains_any ao n cap fl w R)
 have hlen:=R.len
 have same : Hid (∀ W,Below w.heap.size w W -> PPost B v N F w (wordsL os) W):=fun W hb=>⟨F,h.keep (fun b hf=>hb.block b (h.ge b hf).2),fun b hb=>.inl hb,Mod.of_below F hb⟩
 have hfits:=R.fits
 have hmost:=R.most
 unfold maxLen at hmost
 have HR:=hid R
 have HA:=hid ha
 have HB:=hid hB
 by_cases h1 : kind < 1 \/ 22 < kind
 ·have e1 : allocM os N kind fl = (0, 70) := by unfold allocM; rw [if_pos h1]
  have e2 : allocO os N kind fl = os:=by unfold allocO;rw [e1];rfl
  rw [e1,e2]
  rw [decide_eq_true h1] at C1
  obtain ⟨gh,rfl⟩:=h.ptr
  simp only
  clear h R ha hB h1 e1 e2 hk
  go_enter Tryz.func47,Tryz.ntmps47
  go_wp2_with (go_at_call 65;(with_reducible refine C1.out.mono ?_);rintro e W1 ⟨rfl,hw1⟩;rw [hw1];clear hw1)
  go_ret2
  exact ⟨rfl,same.out _ (Below.refl _ _)⟩
 rw [decide_eq_false h1] at C1
 by_cases h2 : fl.any isHd = true
 ·have e1 : allocM os N kind fl = (0, 1) := by unfold allocM; rw [if_neg h1, if_pos h2]
  have e2 : allocO os N kind fl = os:=by unfold allocO;rw [e1];rfl
  rw [e1,e2]
  rw [h2] at C2
  obtain ⟨gh,rfl⟩:=h.ptr
  simp only
  clear h R ha hB h1 h2 e1 e2 hk
  go_enter Tryz.func47,Tryz.ntmps47
  go_wp2_with (first
   | (go_at_call 65;(with_reducible refine C1.out.mono ?_);rintro e W1 ⟨rfl,hw1⟩;rw [hw1];clear hw1)
   | (go_at_call 88;(with_reducible refine C2.out.mono ?_);rintro e W1 ⟨rfl,hw1⟩;rw [hw1];clear hw1))
  go_ret2
  exact ⟨rfl,same.out _ (Below.refl _ _)⟩
 have h2' : fl.any isHd = false:=by simpa using h2
 rw [h2'] at C2
 obtain ⟨gh,gw,nn,rest,rfl,hp⟩:=h.opened
 have HP:=hid hp
 by_cases h3 : N - (usedL os : Nat) < 1 + (fl.length : Nat)
 ·have e1 : allocM os N kind fl = (0, 3) := by unfold allocM; rw [if_neg h1, if_neg h2, if_pos h3]
  have e2 : allocO os N kind fl = os:=by unfold allocO;rw [e1];rfl
  rw [e1,e2]
  have C3:=hid (layfull kind n (by rw [wordsL_length];omega) hp)
  have hcp:=fun wx ty=>run_copy_none (P:=Tryz.prog) wx 23 23 ty 44 none ao 0 0 n cap Tryz.underlying23 word_one (Nat.min_eq_right (Nat.zero_le _))
  simp only
  clear h hp R ha hB h1 h2 h2' h3 e1 e2 hk
  go_enter Tryz.func47,Tryz.ntmps47
  go_wp2_with (first
   | (go_at_call 65;(with_reducible refine C1.out.mono ?_);rintro e W1 ⟨rfl,hw1⟩;rw [hw1];clear hw1)
   | (go_at_call 88;(with_reducible refine C2.out.mono ?_);rintro e W1 ⟨rfl,hw1⟩;rw [hw1];clear hw1)
   | (go_at_call 67;(with_reducible refine C3.out.mono ?_);rintro e W1 ⟨rfl,b1⟩;have HB1:=hid b1;clear b1))
  go_ret2
  exact ⟨rfl,same.out _ HB1.out⟩
 ·have e1 : allocM os N kind fl = (wordR 2 (usedL os : Nat) 0, 0) := by unfold allocM; rw [if_neg h1, if_neg h2, if_neg h3]
  have e2:=alloc_words (os:=os) (N:=N) kind fl (by rw [e1])
  rw [e1,e2]
  have hs : (n : Int) < N - ((wordsL os).length : Nat):=by rw [wordsL_length];omega
  have C3:=hid (layhead kind n (by omega) hs hp)
  have HS:=hid hs
  rw [wordsL_length] at C3
  obtain ⟨pt,hpt⟩ : ∃ x,x = wordR 2 (usedL os : Nat) 0:=⟨_,rfl⟩
  rw [<- hpt] at C3 ⊢
  rw [hlen]
  obtain ⟨hd,hhd⟩ : ∃ x,x = wordR 8 (n : Nat) kind:=⟨_,rfl⟩
  have hhu : Hid (U64 hd):=by unfold Hid;rw [hhd];exact wordR_rng _ _ _
  rw [<- hhd] at C3 ⊢
  have HL:=hid hlen
  have hfd : Hid (∀ W1 W2 : World,W1.heap[gh]? = some (.cells #[.slice (some ⟨gw,0,none⟩) nn nn,.int .i64 ((usedL os + 1 + n : Nat) : Int)] 125 (0,0)) -> Mod F w W1 -> W2.heap[gw]? = some (.cells (uz ((wordsL os ++ [hd]) ++ (fl ++ rest.tail.drop fl.length))).toArray 44 (0,0)) -> Mod (fun b=>b = gw) W1 W2 -> PPost B (.pointer (some ⟨gh,0,none⟩)) N F w (wordsL os ++ hd :: fl) W2):=fun W1 W2 g1 g2 g3 g4=>by
   have hgh:=(Array.getElem?_eq_some_iff.1 g1).1
   have q:=lay_shut (w':=W2) HP.out (hd:=hd) (fl:=fl) (by rw [HL.out];exact HS.out) hhu.out HR.out.bd ((g4.block gh hgh HP.out.ne).trans (by rw [g1,wordsL_length,HL.out])) (by rw [g3];simp)
   exact ⟨F,q.shut,fun b hb=>.inl hb,g2.trans g4 (fun b _ e=>by rw [e];exact (HP.out.ff gw).2 (.inr rfl))⟩
  have hC : Hid (fl.length <= rest.tail.length):=by
   unfold Hid
   have:=hp.len
   have:=hp.nn
   rw [List.length_append,wordsL_length] at *
   rw [List.length_tail];omega
  have hcpy : Hid (∀ W1 : World,W1.heap[gw]? = some (.cells (uz (wordsL os ++ (hd :: rest.tail))).toArray 44 (0,0)) -> Mod F w W1 -> ∀ off c1,(0 < n -> off = usedL os + 1) -> ∃ w',(∀ ty,(Builtin.copy_ #[23,23] ty #[.slice (some ⟨gw,off,none⟩) n c1,.slice ao n cap]).run Tryz.prog W1 = .ok (goInt n) w') /\ w'.heap[gw]? = some (.cells (uz ((wordsL os ++ [hd]) ++ (fl ++ rest.tail.drop fl.length))).toArray 44 (0,0)) /\ Mod (fun b=>b = gw) W1 w'):=fun W1 g1 g2 off c1 ho=>by
   refine copy_words (A:=wordsL os ++ [hd]) (C:=rest.tail) (by rw [g1];simp) (fun h0=>?_) hC.out (HR.out.keep g2.size (fun hne a ha'=>?_))
   ·rw [ho (by rw [<- HL.out];exact h0)];simp [wordsL_length]
   ·rcases HR.out.rd with e | ⟨b, o, e, hlb, _⟩
    ·exact absurd e hne
    ·rw [e] at ha'; cases ha'
     exact g2.block b hlb (HA.out _ e)
  simp only
  clear h hp R ha hB h1 h2 h2' h3 e1 e2 hk hpt hhd hlen hs
  unfold LayPost at C3
  go_enter Tryz.func47,Tryz.ntmps47
  go_wp2_with (first
   | (go_at_call 65;(with_reducible refine C1.out.mono ?_);rintro e W1 ⟨rfl,hw1⟩;rw [hw1];clear hw1)
   | (go_at_call 88;(with_reducible refine C2.out.mono ?_);rintro e W1 ⟨rfl,hw1⟩;rw [hw1];clear hw1)
   | (go_at_call 67;(with_reducible refine C3.out.mono ?_);rintro e W1 ⟨⟨off,c1,rfl,ho1,ho2,ho3⟩,g1,g2,g3⟩;obtain ⟨W2,hrun,k1,k2⟩:=hcpy.out W1 g2 g3 off c1 ho1;have HE:=hid (hfd.out W1 W2 g1 g3 k1 k2);clear g1 g2 g3 k1 k2 ho1))
  go_ret2
  exact ⟨rfl,HE.out⟩
end
def NewP (n : Int) (w : World) (e : Ending) (w' : World) : Prop:=if n < 1 \/ 4194304 < n then e = .returned (.tuple #[.pointer none,.int .i64 1]) /\ w' = w else ∃ v F,e = .returned (.tuple #[v,.int .i64 0]) /\ PH w.heap.size v n [] F w' /\ Below w.heap.size w w'
set_option maxHeartbeats 4000000 in
theorem pnew_is (n : Int) (hn : Z64 n) (w : World) : Calls Tryz.prog 29 #[.int .i64 n] w fun e w'=>NewP n w e w':=by
 by_cases h1 : n < 1
 ·go_enter Tryz.func29, Tryz.ntmps29
  go_wp2
  go_ret2
  unfold NewP
  rw [if_pos (.inl h1)]
  exact ⟨rfl,rfl⟩
 by_cases h2 : 4194304 < n
 ·go_enter Tryz.func29, Tryz.ntmps29
  go_wp2
  go_ret2
  unfold NewP
  rw [if_pos (.inr h2)]
  exact ⟨rfl,rfl⟩
 ·obtain ⟨k, rfl⟩ : ∃ k : Nat, n = (k : Int) := ⟨n.toNat, by omega⟩
  have hmk:=fun wx=>run_make_row' (P:=Tryz.prog) 23 44 (.int .u64 0) 8 Tryz.underlying23 info_word rfl .i64 .i64 k (by omega) (by omega) wx
  clear hn
  go_enter Tryz.func29,Tryz.ntmps29
  go_wp2
  go_ret2
  unfold NewP
  rw [if_neg (by omega)]
  obtain ⟨W1,hW1⟩ : ∃ W,W = w.alloc (.cells (madeCells #[.int .u64 0] k) 44):=⟨_,rfl⟩
  rw [<- hW1]
  have b1 : Below w.heap.size w W1:=by rw [hW1];exact Ba _ _
  have r1 : W1.heap[w.heap.size]? = some (.cells (madeCells #[.int .u64 0] k) 44 (0,0)):=by rw [hW1];exact blk_new _ _ _
  have s1 : W1.heap.size = w.heap.size + 1:=by rw [hW1,size_alloc]
  have em : madeCells #[.int .u64 0] k = (uz ([] ++ List.replicate k 0)).toArray:=by
   rw [<- Array.toArray_toList (xs:=madeCells #[.int .u64 0] k),toList_madeCells_one];simp [uz]
  refine ⟨.pointer (some ⟨w.heap.size + 1,0,none⟩),fun b=>b = W1.heap.size \/ b = w.heap.size,rfl,⟨⟨W1.heap.size,w.heap.size,k,List.replicate k 0,by rw [s1],?_,rfl,?_,by simp,by omega,by omega,Nat.le_refl _,fun b=>Iff.rfl⟩,by simp;omega,fun z hz=>by cases hz⟩,Bt b1 (Ba _ _)⟩
  ·exact blk_new _ _ _
  ·rw [<- em];exact ((Ba W1 _).block w.heap.size (by omega)).trans r1
section
variable {B : Nat} {v : Value} {N : Int} {F : Nat -> Prop} {os : List Ob}
def fillP (os : List Ob) (N kind n z : Int) : Int × Int :=
 if kind < 1 \/ 22 < kind then (0,70) else if n < 0 \/ 4194304 < n then (0,1) else allocM os N kind (List.replicate n.toNat z)
def fillQ (os : List Ob) (N kind n z : Int) : List Ob:=if (fillP os N kind n z).2 = 0 then os ++ [⟨kind,List.replicate n.toNat z⟩] else os
theorem rep_any (n : Nat) (z : Int) : (List.replicate n z).any isHd = (decide (0 < n) && isHd z):=by
 induction n with
 | zero=>simp
 | succ k ih=>simp [List.replicate_succ,ih]
set_option maxHeartbeats 8000000 in
theorem pfill_any (ho : OsOk os) (kind n z : Int) (hk : Z64 kind) (hn : Z64 n) (hz : U64 z) (w : World) (h : PH B v N (wordsL os) F w) (hB : B <= w.heap.size) :
  Calls Tryz.prog 34 #[v,.int .i64 kind,.int .i64 n,.int .u64 z] w fun e w'=>e = .returned (.tuple #[.int .u64 (fillP os N kind n z).1,.int .i64 (fillP os N kind n z).2]) /\ PPost B v N F w (wordsL (fillQ os N kind n z)) w':=by
 have C1:=hid (istype_any kind hk w)
 have C2:=hid (q_ishead z hz w)
 have same : Hid (∀ W,Below w.heap.size w W -> PPost B v N F w (wordsL os) W):=fun W hb=>⟨F,h.keep (fun b hf=>hb.block b (h.ge b hf).2),fun b hb=>.inl hb,Mod.of_below F hb⟩
 have HZ:=hid hz
 unfold Z64 at hn
 by_cases h1 : kind < 1 \/ 22 < kind
 ·have e1 : fillP os N kind n z = (0, 70) := by unfold fillP; rw [if_pos h1]
  have e2 : fillQ os N kind n z = os:=by unfold fillQ;rw [e1];rfl
  rw [e1,e2]
  rw [decide_eq_true h1] at C1
  obtain ⟨gh,rfl⟩:=h.ptr
  simp only
  clear h hB h1 e1 e2 hk
  go_enter Tryz.func34,Tryz.ntmps34
  go_wp2_with (go_at_call 65;(with_reducible refine C1.out.mono ?_);rintro e W1 ⟨rfl,hw1⟩;rw [hw1];clear hw1)
  go_ret2
  exact ⟨rfl,same.out _ (Below.refl _ _)⟩
 rw [decide_eq_false h1] at C1
 by_cases h2 : n < 0 \/ 4194304 < n
 ·have e1 : fillP os N kind n z = (0, 1) := by unfold fillP; rw [if_neg h1, if_pos h2]
  have e2 : fillQ os N kind n z = os:=by unfold fillQ;rw [e1];rfl
  rw [e1,e2]
  obtain ⟨gh,rfl⟩:=h.ptr
  simp only
  clear h hB h1 e1 e2 hk
  by_cases h3 : n < 0
  ·go_enter Tryz.func34, Tryz.ntmps34
   go_wp2_with (go_at_call 65;(with_reducible refine C1.out.mono ?_);rintro e W1 ⟨rfl,hw1⟩;rw [hw1];clear hw1)
   go_ret2
   exact ⟨rfl,same.out _ (Below.refl _ _)⟩
  ·have h4 : 4194304 < n := by omega
   go_enter Tryz.func34,Tryz.ntmps34
   go_wp2_with (go_at_call 65;(with_reducible refine C1.out.mono ?_);rintro e W1 ⟨rfl,hw1⟩;rw [hw1];clear hw1)
   go_ret2
   exact ⟨rfl,same.out _ (Below.refl _ _)⟩
 obtain ⟨k,rfl⟩ : ∃ k : Nat,n = (k : Int):=⟨n.toNat,by omega⟩
 have hkb : k <= 4194304:=by omega
 have e0 : fillP os N kind k z = allocM os N kind (List.replicate k z):=by unfold fillP;rw [if_neg h1,if_neg h2,Int.toNat_natCast]
 have e0' : fillQ os N kind k z = allocO os N kind (List.replicate k z):=by unfold fillQ allocO;rw [e0,Int.toNat_natCast]
 rw [e0,e0']
 have hkk : 1 <= kind /\ kind <= 22:=by omega
 obtain ⟨gh,gw,nn,rest,rfl,hp⟩:=h.opened
 have HP:=hid hp
 have hlr : (List.replicate k z).length = k:=List.length_replicate
 by_cases h3 : (0 < k) /\ isHd z = true
 ·have e1 : allocM os N kind (List.replicate k z) = (0, 1) := by unfold allocM; rw [if_neg h1, if_pos (by rw [rep_any, decide_eq_true h3.1, h3.2]; rfl)]
  have e2 : allocO os N kind (List.replicate k z) = os:=by unfold allocO;rw [e1];rfl
  rw [e1,e2]
  have h4:=h3.1
  rw [h3.2] at C2
  simp only
  clear h hp hB h1 h2 h3 e1 e2 e0 e0' hk hn
  go_enter Tryz.func34,Tryz.ntmps34
  go_wp2_with (first
   | (go_at_call 65;(with_reducible refine C1.out.mono ?_);rintro e W1 ⟨rfl,hw1⟩;rw [hw1];clear hw1)
   | (go_at_call 66;(with_reducible refine C2.out.mono ?_);rintro e W1 ⟨rfl,hw1⟩;rw [hw1];clear hw1))
  go_ret2
  exact ⟨rfl,same.out _ (Below.refl _ _)⟩
 have hany : (List.replicate k z).any isHd = false:=by
  rw [rep_any]
  cases hb : isHd z
  ·simp
  ·have : ¬ 0 < k := fun h => h3 ⟨h, hb⟩
   rw [decide_eq_false this];rfl
 have hhz : k = 0 \/ isHd z = false:=by
  cases hb : isHd z
  ·exact .inr rfl
  ·exact .inl (by have : ¬ 0 < k:=fun h=>h3 ⟨h,hb⟩;omega)
 by_cases h5 : N - (usedL os : Nat) < 1 + (k : Nat)
 ·have e1 : allocM os N kind (List.replicate k z) = (0, 3) := by unfold allocM; rw [if_neg h1, hany, hlr, if_pos h5]; rfl
  have e2 : allocO os N kind (List.replicate k z) = os:=by unfold allocO;rw [e1];rfl
  rw [e1,e2]
  have C3:=hid (layfull kind k (by rw [wordsL_length];omega) hp)
  simp only
  have HH:=hid hhz
  clear h hp hB h1 h2 h3 h5 e1 e2 e0 e0' hk hn hhz hany hlr
  by_cases h8 : 0 < k
  ·have h6 : isHd z = false := HH.out.resolve_left (by omega)
   rw [h6] at C2
   go_enter Tryz.func34,Tryz.ntmps34
   go_wp2_with (first
    | (go_at_call 65;(with_reducible refine C1.out.mono ?_);rintro e W1 ⟨rfl,hw1⟩;rw [hw1];clear hw1)
    | (go_at_call 66;(with_reducible refine C2.out.mono ?_);rintro e W1 ⟨rfl,hw1⟩;rw [hw1];clear hw1)
    | (go_at_call 67;(with_reducible refine C3.out.mono ?_);rintro e W1 ⟨rfl,b1⟩;have HB1:=hid b1;clear b1))
   go_loopw [41] (fun i wr=>i = .int .i64 0 /\ Hid (wr = W1)) (fun _ _=>0)
   case atStart=>exact ⟨rfl,rfl⟩
   case round =>
    obtain ⟨rfl,hI⟩:=hrel
    go_wp2_with fail
    go_ret2
    rw [hI.out]
    exact ⟨rfl,same.out _ HB1.out⟩
  ·have hk1 : decide (0 < k) = false := decide_eq_false h8
   have hk2 : decide ((0 : Int) < k) = false:=decide_eq_false (by omega)
   have HK8:=hid h8
   clear h8
   go_enter Tryz.func34,Tryz.ntmps34
   go_wp2_with (first
    | (go_at_call 65;(with_reducible refine C1.out.mono ?_);rintro e W1 ⟨rfl,hw1⟩;rw [hw1];clear hw1)
    | (go_at_call 67;(with_reducible refine C3.out.mono ?_);rintro e W1 ⟨rfl,b1⟩;have HB1:=hid b1;clear b1))
   go_loopw [41] (fun i wr=>i = .int .i64 0 /\ Hid (wr = W1)) (fun _ _=>0)
   case atStart=>exact ⟨rfl,rfl⟩
   case round =>
    obtain ⟨rfl,hI⟩:=hrel
    go_wp2_with fail
    go_ret2
    rw [hI.out]
    exact ⟨rfl,same.out _ HB1.out⟩
 ·have e1 : allocM os N kind (List.replicate k z) = (wordR 2 (usedL os : Nat) 0, 0) := by unfold allocM; rw [if_neg h1, hany, hlr, if_neg h5]; rfl
  have e2:=alloc_words (os:=os) (N:=N) kind (List.replicate k z) (by rw [e1])
  rw [e1,e2,hlr]
  have hs : (k : Int) < N - ((wordsL os).length : Nat):=by rw [wordsL_length];omega
  have C3:=hid (layhead kind k hkk hs hp)
  have HS:=hid hs
  rw [wordsL_length] at C3
  obtain ⟨pt,hpt⟩ : ∃ x,x = wordR 2 (usedL os : Nat) 0:=⟨_,rfl⟩
  rw [<- hpt] at C3 ⊢
  obtain ⟨hd,hhd⟩ : ∃ x,x = wordR 8 (k : Nat) kind:=⟨_,rfl⟩
  have hhu : Hid (U64 hd):=by unfold Hid;rw [hhd];exact wordR_rng _ _ _
  rw [<- hhd] at C3 ⊢
  have HL:=hid hlr
  obtain ⟨A,hA⟩ : ∃ A,A = wordsL os ++ [hd]:=⟨_,rfl⟩
  have hAl : Hid (A.length = usedL os + 1):=by unfold Hid;rw [hA];simp [wordsL_length]
  have hC : Hid (k <= rest.tail.length):=by
   unfold Hid
   have:=hp.len
   have:=hp.nn
   rw [List.length_append,wordsL_length] at *
   rw [List.length_tail];omega
  have hfd : Hid (∀ W1 W2 : World,W1.heap[gh]? = some (.cells #[.slice (some ⟨gw,0,none⟩) nn nn,.int .i64 ((usedL os + 1 + k : Nat) : Int)] 125 (0,0)) -> Mod F w W1 -> W2.heap[gw]? = some (.cells (uz (A ++ (List.replicate k z ++ rest.tail.drop k))).toArray 44 (0,0)) -> Mod (fun b=>b = gw) W1 W2 -> PPost B (.pointer (some ⟨gh,0,none⟩)) N F w (wordsL os ++ hd :: List.replicate k z) W2):=fun W1 W2 g1 g2 g3 g4=>by
   have hgh:=(Array.getElem?_eq_some_iff.1 g1).1
   have q:=lay_shut (w':=W2) HP.out (hd:=hd) (fl:=List.replicate k z) (by rw [HL.out];exact HS.out) hhu.out (fun y hy=>by rw [List.eq_of_mem_replicate hy];exact HZ.out) ((g4.block gh hgh HP.out.ne).trans (by rw [g1,wordsL_length,HL.out])) (by rw [g3,hA,HL.out];simp)
   exact ⟨F,q.shut,fun b hb=>.inl hb,g2.trans g4 (fun b _ e=>by rw [e];exact (HP.out.ff gw).2 (.inr rfl))⟩
  have hst : Hid (∀ (W1 : World),W1.heap[gw]? = some (.cells (uz (wordsL os ++ (hd :: rest.tail))).toArray 44 (0,0)) -> W1.heap[gw]? = some (.cells (uz (A ++ (List.replicate 0 z ++ rest.tail.drop 0))).toArray 44 (0,0))):=fun W1 g=>by rw [g,hA];simp
  have hHA:=hid hA
  simp only
  have HH:=hid hhz
  clear h hp hB h1 h2 h3 h5 e1 e2 e0 e0' hk hn hhz hany hlr hpt hhd hA
  unfold LayPost at C3
  obtain ⟨RT,hRT⟩ : ∃ r,r = rest.tail:=⟨_,rfl⟩
  rw [<- hRT] at C3 hfd hst hC
  clear hRT
  have go : Hid (∀ (W1 wr : World) (q : Nat),q < k -> wr.heap[gw]? = some (.cells (uz (A ++ (List.replicate q z ++ RT.drop q))).toArray 44 (0,0)) -> (wr.setCell ⟨gw,usedL os + 1 + q,none⟩ (.int .u64 z)).heap[gw]? = some (.cells (uz (A ++ (List.replicate (q + 1) z ++ RT.drop (q + 1)))).toArray 44 (0,0))):=fun W1 wr q hq g=>by
   rw [blk_set (i:=usedL os + 1 + q) g (.int .u64 z)]
   have hc:=hC.out
   have e1 : RT.drop q = RT[q]'(by omega) :: RT.drop (q + 1):=List.drop_eq_getElem_cons (by omega)
   rw [e1,<- hAl.out]
   have e2 : ∀ x : List Int,(uz (A ++ (List.replicate q z ++ x))).length = A.length + q + x.length:=fun x=>by simp [uz];omega
   have : (uz (A ++ (List.replicate q z ++ RT[q]'(by omega) :: RT.drop (q + 1)))).toArray.setIfInBounds (A.length + q) (.int .u64 z) = (uz (A ++ (List.replicate (q + 1) z ++ RT.drop (q + 1)))).toArray:=by
    rw [List.setIfInBounds_toArray]
    congr 1
    rw [uz_append,List.set_append_right _ _ (by rw [uz_length];omega),uz_append,uz_append,List.set_append_right _ _ (by rw [uz_length,uz_length,List.length_replicate];omega)]
    rw [uz_length,uz_length,List.length_replicate,show A.length + q - A.length - q = 0 by omega]
    rw [show uz (RT[q]'(by omega) :: RT.drop (q + 1)) = .int .u64 (RT[q]'(by omega)) :: uz (RT.drop (q + 1)) from rfl,List.set_cons_zero,List.replicate_succ']
    simp only [uz,List.map_append,List.map_cons,List.map_nil,List.append_assoc,List.cons_append,List.nil_append]
   rw [this]
  have hcell : Hid (∀ (wr : World) (q : Nat),q < k -> wr.heap[gw]? = some (.cells (uz (A ++ (List.replicate q z ++ RT.drop q))).toArray 44 (0,0)) -> ∃ y,wr.cell? ⟨gw,usedL os + 1 + q,none⟩ = some (.int .u64 y)):=fun wr q hq g=>by
   have hl : usedL os + 1 + q < (A ++ (List.replicate q z ++ RT.drop q)).length:=by have hc:=hC.out;have ha:=hAl.out;simp;omega
   refine ⟨(A ++ (List.replicate q z ++ RT.drop q)).getD (usedL os + 1 + q) 0,(blk_cell g _).trans ?_⟩
   rw [List.getElem?_toArray,uz_get hl]
  by_cases h8 : 0 < k
  ·have h6 : isHd z = false := HH.out.resolve_left (by omega)
   rw [h6] at C2
   go_enter Tryz.func34,Tryz.ntmps34
   go_wp2_with (first
    | (go_at_call 65;(with_reducible refine C1.out.mono ?_);rintro e W1 ⟨rfl,hw1⟩;rw [hw1];clear hw1)
    | (go_at_call 66;(with_reducible refine C2.out.mono ?_);rintro e W1 ⟨rfl,hw1⟩;rw [hw1];clear hw1)
    | (go_at_call 67;(with_reducible refine C3.out.mono ?_);rintro e W1 ⟨⟨off,c1,rfl,ho1,ho2,ho3⟩,g1,g2,g3⟩;obtain rfl:=ho1 h8;have HG1:=hid g1;have HG2:=hid (hst.out W1 g2);have HG3:=hid g3;clear g1 g2 g3 ho1))
   go_loopw [41] (fun i wr=>∃ q : Nat,q <= k /\ i = .int .i64 q /\ Hid (wr.heap[gw]? = some (.cells (uz (A ++ (List.replicate q z ++ RT.drop q))).toArray 44 (0,0)) /\ Mod (fun b=>b = gw) W1 wr)) (fun i _=>k - (intOf i).toNat)
   case atStart=>exact ⟨0,Nat.zero_le _,rfl,HG2.out,Mod.refl _ _⟩
   case round =>
    obtain ⟨q,hq,rfl,hI⟩:=hrel
    by_cases hlt : q < k
    ·obtain ⟨y, cy⟩ := hcell.out wr q hlt hI.out.1
     have fy:=blk_free hI.out.1 (usedL os + 1 + q)
     have HN:=hid (go.out W1 wr q hlt hI.out.1)
     have HM:=hid (hI.out.2.setCell (p:=⟨gw,usedL os + 1 + q,none⟩) (.inl rfl) (.int .u64 z))
     go_wp2_with fail
     exact ⟨⟨q + 1,by omega,by go_num,HN.out,HM.out⟩,by simp [intOf] <;> omega⟩
    ·obtain rfl : q = k := by omega
     go_wp2_with fail
     go_ret2
     exact ⟨rfl,hfd.out W1 wr HG1.out HG3.out hI.out.1 hI.out.2⟩
  ·have hk1 : decide (0 < k) = false := decide_eq_false h8
   have hk2 : decide ((0 : Int) < k) = false:=decide_eq_false (by omega)
   have HK8:=hid h8
   clear h8
   go_enter Tryz.func34,Tryz.ntmps34
   go_wp2_with (first
    | (go_at_call 65;(with_reducible refine C1.out.mono ?_);rintro e W1 ⟨rfl,hw1⟩;rw [hw1];clear hw1)
    | (go_at_call 67;(with_reducible refine C3.out.mono ?_);rintro e W1 ⟨⟨off,c1,rfl,ho1,ho2,ho3⟩,g1,g2,g3⟩;have HG1:=hid g1;have HG2:=hid (hst.out W1 g2);have HG3:=hid g3;clear g1 g2 g3 ho1))
   go_loopw [41] (fun i wr=>∃ q : Nat,q <= k /\ i = .int .i64 q /\ Hid (wr.heap[gw]? = some (.cells (uz (A ++ (List.replicate q z ++ RT.drop q))).toArray 44 (0,0)) /\ Mod (fun b=>b = gw) W1 wr)) (fun i _=>k - (intOf i).toNat)
   case atStart=>exact ⟨0,Nat.zero_le _,rfl,HG2.out,Mod.refl _ _⟩
   case round =>
    obtain ⟨q,hq,rfl,hI⟩:=hrel
    obtain rfl : q = k:=by have:=HK8.out;omega
    go_wp2_with fail
    go_ret2
    exact ⟨rfl,hfd.out W1 wr HG1.out HG3.out hI.out.1 hI.out.2⟩
end
end Go.Proofs.YticimejfjjmikaaGreatDoor
