import Derived.Test.YticimejfjjmikaaGreatDoorV9d
import Derived.Test.YticimejfjjmikaaGreatDoorU0
import Derived.Deep.LoopGhost
import Derived.Deep.RegionWith
set_option linter.unusedVariables false
set_option linter.unusedSimpArgs false
set_option maxRecDepth 100000
namespace Go.Proofs.YticimejfjjmikaaGreatDoor
open Go.RowKit
def NewP (n : Int) (w : World) (e : Ending) (w' : World) : Prop:=if n < 1 \/ 4194304 < n then e = .returned (.tuple #[.pointer none,.int .i64 1]) /\ w' = w else ∃ v F,e = .returned (.tuple #[v,.int .i64 0]) /\ PH w.heap.size v n [] F w' /\ Below w.heap.size w w'
set_option maxHeartbeats 4000000 in
theorem pnew_is (n : Int) (hn : Z64 n) (w : World) : Calls Tryz.prog 29 #[.int .i64 n] w fun e w'=>NewP n w e w':=by
 by_cases h1 : n < 1
 ·go_enter Tryz.func29, Tryz.ntmps29
  go_wp2
  go_ret2
  unfold NewP
  rw [if_pos (.inl h1)]
  exact ⟨rfl,rfl⟩
 by_cases h2 : 4194304 < n
 ·go_enter Tryz.func29, Tryz.ntmps29
  go_wp2
  go_ret2
  unfold NewP
  rw [if_pos (.inr h2)]
  exact ⟨rfl,rfl⟩
 ·obtain ⟨k, rfl⟩ : ∃ k : Nat, n = (k : Int) := ⟨n.toNat, by omega⟩
  have hmk:=fun wx=>run_make_row' (P:=Tryz.prog) 23 44 (.int .u64 0) 8 Tryz.underlying23 info_word rfl .i64 .i64 k (by omega) (by omega) wx
  clear hn
  go_enter Tryz.func29,Tryz.ntmps29
  go_wp2
  go_ret2
  unfold NewP
  rw [if_neg (by omega)]
  obtain ⟨W1,hW1⟩ : ∃ W,W = w.alloc (.cells (madeCells #[.int .u64 0] k) 44):=⟨_,rfl⟩
  rw [<- hW1]
  have b1 : Below w.heap.size w W1:=by rw [hW1];exact Ba _ _
  have r1 : W1.heap[w.heap.size]? = some (.cells (madeCells #[.int .u64 0] k) 44 (0,0)):=by rw [hW1];exact blk_new _ _ _
  have s1 : W1.heap.size = w.heap.size + 1:=by rw [hW1,size_alloc]
  have em : madeCells #[.int .u64 0] k = (uz ([] ++ List.replicate k 0)).toArray:=by
   rw [<- Array.toArray_toList (xs:=madeCells #[.int .u64 0] k),toList_madeCells_one];simp [uz]
  refine ⟨.pointer (some ⟨w.heap.size + 1,0,none⟩),fun b=>b = W1.heap.size \/ b = w.heap.size,rfl,⟨⟨W1.heap.size,w.heap.size,k,List.replicate k 0,by rw [s1],?_,rfl,?_,by simp,by omega,by omega,Nat.le_refl _,fun b=>Iff.rfl⟩,by simp;omega,fun z hz=>by cases hz⟩,Bt b1 (Ba _ _)⟩
  ·exact blk_new _ _ _
  ·rw [<- em];exact ((Ba W1 _).block w.heap.size (by omega)).trans r1
section
variable {B : Nat} {v : Value} {N : Int} {F : Nat -> Prop} {os : List Ob}
def fillP (os : List Ob) (N kind n z : Int) : Int × Int :=
 if kind < 1 \/ 22 < kind then (0,70) else if n < 0 \/ 4194304 < n then (0,1) else allocM os N kind (List.replicate n.toNat z)
def fillQ (os : List Ob) (N kind n z : Int) : List Ob:=if (fillP os N kind n z).2 = 0 then os ++ [⟨kind,List.replicate n.toNat z⟩] else os
theorem rep_any (n : Nat) (z : Int) : (List.replicate n z).any isHd = (decide (0 < n) && isHd z):=by
 induction n with
 | zero=>simp
 | succ k ih=>simp [List.replicate_succ,ih]
set_option maxHeartbeats 8000000 in
theorem pfill_any (ho : OsOk os) (kind n z : Int) (hk : Z64 kind) (hn : Z64 n) (hz : U64 z) (w : World) (h : PH B v N (wordsL os) F w) (hB : B <= w.heap.size) :
  Calls Tryz.prog 34 #[v,.int .i64 kind,.int .i64 n,.int .u64 z] w fun e w'=>e = .returned (.tuple #[.int .u64 (fillP os N kind n z).1,.int .i64 (fillP os N kind n z).2]) /\ PPost B v N F w (wordsL (fillQ os N kind n z)) w':=by
 have C1:=hid (istype_any kind hk w)
 have C2:=hid (q_ishead z hz w)
 have same : Hid (∀ W,Below w.heap.size w W -> PPost B v N F w (wordsL os) W):=fun W hb=>⟨F,h.keep (fun b hf=>hb.block b (h.ge b hf).2),fun b hb=>.inl hb,Mod.of_below F hb⟩
 have HZ:=hid hz
 unfold Z64 at hn
 by_cases h1 : kind < 1 \/ 22 < kind
 ·have e1 : fillP os N kind n z = (0, 70) := by unfold fillP; rw [if_pos h1]
  have e2 : fillQ os N kind n z = os:=by unfold fillQ;rw [e1];rfl
  rw [e1,e2]
  rw [decide_eq_true h1] at C1
  obtain ⟨gh,rfl⟩:=h.ptr
  simp only
  clear h hB h1 e1 e2 hk
  go_enter Tryz.func34,Tryz.ntmps34
  go_wp2_with (go_at_call 65;(with_reducible refine C1.out.mono ?_);rintro e W1 ⟨rfl,hw1⟩;rw [hw1];clear hw1)
  go_ret2
  exact ⟨rfl,same.out _ (Below.refl _ _)⟩
 rw [decide_eq_false h1] at C1
 by_cases h2 : n < 0 \/ 4194304 < n
 ·have e1 : fillP os N kind n z = (0, 1) := by unfold fillP; rw [if_neg h1, if_pos h2]
  have e2 : fillQ os N kind n z = os:=by unfold fillQ;rw [e1];rfl
  rw [e1,e2]
  obtain ⟨gh,rfl⟩:=h.ptr
  simp only
  clear h hB h1 e1 e2 hk
  by_cases h3 : n < 0
  ·go_enter Tryz.func34, Tryz.ntmps34
   go_wp2_with (go_at_call 65;(with_reducible refine C1.out.mono ?_);rintro e W1 ⟨rfl,hw1⟩;rw [hw1];clear hw1)
   go_ret2
   exact ⟨rfl,same.out _ (Below.refl _ _)⟩
  ·have h4 : 4194304 < n := by omega
   go_enter Tryz.func34,Tryz.ntmps34
   go_wp2_with (go_at_call 65;(with_reducible refine C1.out.mono ?_);rintro e W1 ⟨rfl,hw1⟩;rw [hw1];clear hw1)
   go_ret2
   exact ⟨rfl,same.out _ (Below.refl _ _)⟩
 obtain ⟨k,rfl⟩ : ∃ k : Nat,n = (k : Int):=⟨n.toNat,by omega⟩
 have hkb : k <= 4194304:=by omega
 have e0 : fillP os N kind k z = allocM os N kind (List.replicate k z):=by unfold fillP;rw [if_neg h1,if_neg h2,Int.toNat_natCast]
 have e0' : fillQ os N kind k z = allocO os N kind (List.replicate k z):=by unfold fillQ allocO;rw [e0,Int.toNat_natCast]
 rw [e0,e0']
 have hkk : 1 <= kind /\ kind <= 22:=by omega
 obtain ⟨gh,gw,nn,rest,rfl,hp⟩:=h.opened
 have HP:=hid hp
 have hlr : (List.replicate k z).length = k:=List.length_replicate
 by_cases h3 : (0 < k) /\ isHd z = true
 ·have e1 : allocM os N kind (List.replicate k z) = (0, 1) := by unfold allocM; rw [if_neg h1, if_pos (by rw [rep_any, decide_eq_true h3.1, h3.2]; rfl)]
  have e2 : allocO os N kind (List.replicate k z) = os:=by unfold allocO;rw [e1];rfl
  rw [e1,e2]
  have h4:=h3.1
  rw [h3.2] at C2
  simp only
  clear h hp hB h1 h2 h3 e1 e2 e0 e0' hk hn
  go_enter Tryz.func34,Tryz.ntmps34
  go_wp2_with (first
   | (go_at_call 65;(with_reducible refine C1.out.mono ?_);rintro e W1 ⟨rfl,hw1⟩;rw [hw1];clear hw1)
   | (go_at_call 66;(with_reducible refine C2.out.mono ?_);rintro e W1 ⟨rfl,hw1⟩;rw [hw1];clear hw1))
  go_ret2
  exact ⟨rfl,same.out _ (Below.refl _ _)⟩
 have hany : (List.replicate k z).any isHd = false:=by
  rw [rep_any]
  cases hb : isHd z
  ·simp
  ·have : ¬ 0 < k := fun h => h3 ⟨h, hb⟩
   rw [decide_eq_false this];rfl
 have hhz : k = 0 \/ isHd z = false:=by
  cases hb : isHd z
  ·exact .inr rfl
  ·exact .inl (by have : ¬ 0 < k:=fun h=>h3 ⟨h,hb⟩;omega)
 by_cases h5 : N - (usedL os : Nat) < 1 + (k : Nat)
 ·have e1 : allocM os N kind (List.replicate k z) = (0, 3) := by unfold allocM; rw [if_neg h1, hany, hlr, if_pos h5]; rfl
  have e2 : allocO os N kind (List.replicate k z) = os:=by unfold allocO;rw [e1];rfl
  rw [e1,e2]
  have C3:=hid (layfull kind k (by rw [wordsL_length];omega) hp)
  simp only
  have HH:=hid hhz
  clear h hp hB h1 h2 h3 h5 e1 e2 e0 e0' hk hn hhz hany hlr
  by_cases h8 : 0 < k
  ·have h6 : isHd z = false := HH.out.resolve_left (by omega)
   rw [h6] at C2
   go_enter Tryz.func34,Tryz.ntmps34
   go_wp2_with (first
    | (go_at_call 65;(with_reducible refine C1.out.mono ?_);rintro e W1 ⟨rfl,hw1⟩;rw [hw1];clear hw1)
    | (go_at_call 66;(with_reducible refine C2.out.mono ?_);rintro e W1 ⟨rfl,hw1⟩;rw [hw1];clear hw1)
    | (go_at_call 67;(with_reducible refine C3.out.mono ?_);rintro e W1 ⟨rfl,b1⟩;have HB1:=hid b1;clear b1))
   go_loopw [41] (fun i wr=>i = .int .i64 0 /\ Hid (wr = W1)) (fun _ _=>0)
   case atStart=>exact ⟨rfl,rfl⟩
   case round =>
    obtain ⟨rfl,hI⟩:=hrel
    go_wp2_with fail
    go_ret2
    rw [hI.out]
    exact ⟨rfl,same.out _ HB1.out⟩
  ·have hk1 : decide (0 < k) = false := decide_eq_false h8
   have hk2 : decide ((0 : Int) < k) = false:=decide_eq_false (by omega)
   have HK8:=hid h8
   clear h8
   go_enter Tryz.func34,Tryz.ntmps34
   go_wp2_with (first
    | (go_at_call 65;(with_reducible refine C1.out.mono ?_);rintro e W1 ⟨rfl,hw1⟩;rw [hw1];clear hw1)
    | (go_at_call 67;(with_reducible refine C3.out.mono ?_);rintro e W1 ⟨rfl,b1⟩;have HB1:=hid b1;clear b1))
   go_loopw [41] (fun i wr=>i = .int .i64 0 /\ Hid (wr = W1)) (fun _ _=>0)
   case atStart=>exact ⟨rfl,rfl⟩
   case round =>
    obtain ⟨rfl,hI⟩:=hrel
    go_wp2_with fail
    go_ret2
    rw [hI.out]
    exact ⟨rfl,same.out _ HB1.out⟩
 ·have e1 : allocM os N kind (List.replicate k z) = (wordR 2 (usedL os : Nat) 0, 0) := by unfold allocM; rw [if_neg h1, hany, hlr, if_neg h5]; rfl
  have e2:=alloc_words (os:=os) (N:=N) kind (List.replicate k z) (by rw [e1])
  rw [e1,e2,hlr]
  have hs : (k : Int) < N - ((wordsL os).length : Nat):=by rw [wordsL_length];omega
  have C3:=hid (layhead kind k hkk hs hp)
  have HS:=hid hs
  rw [wordsL_length] at C3
  obtain ⟨pt,hpt⟩ : ∃ x,x = wordR 2 (usedL os : Nat) 0:=⟨_,rfl⟩
  rw [<- hpt] at C3 ⊢
  obtain ⟨hd,hhd⟩ : ∃ x,x = wordR 8 (k : Nat) kind:=⟨_,rfl⟩
  have hhu : Hid (U64 hd):=by unfold Hid;rw [hhd];exact wordR_rng _ _ _
  rw [<- hhd] at C3 ⊢
  have HL:=hid hlr
  obtain ⟨A,hA⟩ : ∃ A,A = wordsL os ++ [hd]:=⟨_,rfl⟩
  have hAl : Hid (A.length = usedL os + 1):=by unfold Hid;rw [hA];simp [wordsL_length]
  have hC : Hid (k <= rest.tail.length):=by
   unfold Hid
   have:=hp.len
   have:=hp.nn
   rw [List.length_append,wordsL_length] at *
   rw [List.length_tail];omega
  have hfd : Hid (∀ W1 W2 : World,W1.heap[gh]? = some (.cells #[.slice (some ⟨gw,0,none⟩) nn nn,.int .i64 ((usedL os + 1 + k : Nat) : Int)] 125 (0,0)) -> Mod F w W1 -> W2.heap[gw]? = some (.cells (uz (A ++ (List.replicate k z ++ rest.tail.drop k))).toArray 44 (0,0)) -> Mod (fun b=>b = gw) W1 W2 -> PPost B (.pointer (some ⟨gh,0,none⟩)) N F w (wordsL os ++ hd :: List.replicate k z) W2):=fun W1 W2 g1 g2 g3 g4=>by
   have hgh:=(Array.getElem?_eq_some_iff.1 g1).1
   have q:=lay_shut (w':=W2) HP.out (hd:=hd) (fl:=List.replicate k z) (by rw [HL.out];exact HS.out) hhu.out (fun y hy=>by rw [List.eq_of_mem_replicate hy];exact HZ.out) ((g4.block gh hgh HP.out.ne).trans (by rw [g1,wordsL_length,HL.out])) (by rw [g3,hA,HL.out];simp)
   exact ⟨F,q.shut,fun b hb=>.inl hb,g2.trans g4 (fun b _ e=>by rw [e];exact (HP.out.ff gw).2 (.inr rfl))⟩
  have hst : Hid (∀ (W1 : World),W1.heap[gw]? = some (.cells (uz (wordsL os ++ (hd :: rest.tail))).toArray 44 (0,0)) -> W1.heap[gw]? = some (.cells (uz (A ++ (List.replicate 0 z ++ rest.tail.drop 0))).toArray 44 (0,0))):=fun W1 g=>by rw [g,hA];simp
  have hHA:=hid hA
  simp only
  have HH:=hid hhz
  clear h hp hB h1 h2 h3 h5 e1 e2 e0 e0' hk hn hhz hany hlr hpt hhd hA
  unfold LayPost at C3
  obtain ⟨RT,hRT⟩ : ∃ r,r = rest.tail:=⟨_,rfl⟩
  rw [<- hRT] at C3 hfd hst hC
  clear hRT
  have go : Hid (∀ (W1 wr : World) (q : Nat),q < k -> wr.heap[gw]? = some (.cells (uz (A ++ (List.replicate q z ++ RT.drop q))).toArray 44 (0,0)) -> (wr.setCell ⟨gw,usedL os + 1 + q,none⟩ (.int .u64 z)).heap[gw]? = some (.cells (uz (A ++ (List.replicate (q + 1) z ++ RT.drop (q + 1)))).toArray 44 (0,0))):=fun W1 wr q hq g=>by
   rw [blk_set (i:=usedL os + 1 + q) g (.int .u64 z)]
   have hc:=hC.out
   have e1 : RT.drop q = RT[q]'(by omega) :: RT.drop (q + 1):=List.drop_eq_getElem_cons (by omega)
   rw [e1,<- hAl.out]
   have e2 : ∀ x : List Int,(uz (A ++ (List.replicate q z ++ x))).length = A.length + q + x.length:=fun x=>by simp [uz];omega
   have : (uz (A ++ (List.replicate q z ++ RT[q]'(by omega) :: RT.drop (q + 1)))).toArray.setIfInBounds (A.length + q) (.int .u64 z) = (uz (A ++ (List.replicate (q + 1) z ++ RT.drop (q + 1)))).toArray:=by
    rw [List.setIfInBounds_toArray]
    congr 1
    rw [uz_append,List.set_append_right _ _ (by rw [uz_length];omega),uz_append,uz_append,List.set_append_right _ _ (by rw [uz_length,uz_length,List.length_replicate];omega)]
    rw [uz_length,uz_length,List.length_replicate,show A.length + q - A.length - q = 0 by omega]
    rw [show uz (RT[q]'(by omega) :: RT.drop (q + 1)) = .int .u64 (RT[q]'(by omega)) :: uz (RT.drop (q + 1)) from rfl,List.set_cons_zero,List.replicate_succ']
    simp only [uz,List.map_append,List.map_cons,List.map_nil,List.append_assoc,List.cons_append,List.nil_append]
   rw [this]
  have hcell : Hid (∀ (wr : World) (q : Nat),q < k -> wr.heap[gw]? = some (.cells (uz (A ++ (List.replicate q z ++ RT.drop q))).toArray 44 (0,0)) -> ∃ y,wr.cell? ⟨gw,usedL os + 1 + q,none⟩ = some (.int .u64 y)):=fun wr q hq g=>by
   have hl : usedL os + 1 + q < (A ++ (List.replicate q z ++ RT.drop q)).length:=by have hc:=hC.out;have ha:=hAl.out;simp;omega
   refine ⟨(A ++ (List.replicate q z ++ RT.drop q)).getD (usedL os + 1 + q) 0,(blk_cell g _).trans ?_⟩
   rw [List.getElem?_toArray,uz_get hl]
  by_cases h8 : 0 < k
  ·have h6 : isHd z = false := HH.out.resolve_left (by omega)
   rw [h6] at C2
   go_enter Tryz.func34,Tryz.ntmps34
   go_wp2_with (first
    | (go_at_call 65;(with_reducible refine C1.out.mono ?_);rintro e W1 ⟨rfl,hw1⟩;rw [hw1];clear hw1)
    | (go_at_call 66;(with_reducible refine C2.out.mono ?_);rintro e W1 ⟨rfl,hw1⟩;rw [hw1];clear hw1)
    | (go_at_call 67;(with_reducible refine C3.out.mono ?_);rintro e W1 ⟨⟨off,c1,rfl,ho1,ho2,ho3⟩,g1,g2,g3⟩;obtain rfl:=ho1 h8;have HG1:=hid g1;have HG2:=hid (hst.out W1 g2);have HG3:=hid g3;clear g1 g2 g3 ho1))
   go_loopw [41] (fun i wr=>∃ q : Nat,q <= k /\ i = .int .i64 q /\ Hid (wr.heap[gw]? = some (.cells (uz (A ++ (List.replicate q z ++ RT.drop q))).toArray 44 (0,0)) /\ Mod (fun b=>b = gw) W1 wr)) (fun i _=>k - (intOf i).toNat)
   case atStart=>exact ⟨0,Nat.zero_le _,rfl,HG2.out,Mod.refl _ _⟩
   case round =>
    obtain ⟨q,hq,rfl,hI⟩:=hrel
    by_cases hlt : q < k
    ·obtain ⟨y, cy⟩ := hcell.out wr q hlt hI.out.1
     have fy:=blk_free hI.out.1 (usedL os + 1 + q)
     have HN:=hid (go.out W1 wr q hlt hI.out.1)
     have HM:=hid (hI.out.2.setCell (p:=⟨gw,usedL os + 1 + q,none⟩) (.inl rfl) (.int .u64 z))
     go_wp2_with fail
     exact ⟨⟨q + 1,by omega,by go_num,HN.out,HM.out⟩,by simp [intOf] <;> omega⟩
    ·obtain rfl : q = k := by omega
     go_wp2_with fail
     go_ret2
     exact ⟨rfl,hfd.out W1 wr HG1.out HG3.out hI.out.1 hI.out.2⟩
  ·have hk1 : decide (0 < k) = false := decide_eq_false h8
   have hk2 : decide ((0 : Int) < k) = false:=decide_eq_false (by omega)
   have HK8:=hid h8
   clear h8
   go_enter Tryz.func34,Tryz.ntmps34
   go_wp2_with (first
    | (go_at_call 65;(with_reducible refine C1.out.mono ?_);rintro e W1 ⟨rfl,hw1⟩;rw [hw1];clear hw1)
    | (go_at_call 67;(with_reducible refine C3.out.mono ?_);rintro e W1 ⟨⟨off,c1,rfl,ho1,ho2,ho3⟩,g1,g2,g3⟩;have HG1:=hid g1;have HG2:=hid (hst.out W1 g2);have HG3:=hid g3;clear g1 g2 g3 ho1))
   go_loopw [41] (fun i wr=>∃ q : Nat,q <= k /\ i = .int .i64 q /\ Hid (wr.heap[gw]? = some (.cells (uz (A ++ (List.replicate q z ++ RT.drop q))).toArray 44 (0,0)) /\ Mod (fun b=>b = gw) W1 wr)) (fun i _=>k - (intOf i).toNat)
   case atStart=>exact ⟨0,Nat.zero_le _,rfl,HG2.out,Mod.refl _ _⟩
   case round =>
    obtain ⟨q,hq,rfl,hI⟩:=hrel
    obtain rfl : q = k:=by have:=HK8.out;omega
    go_wp2_with fail
    go_ret2
    exact ⟨rfl,hfd.out W1 wr HG1.out HG3.out hI.out.1 hI.out.2⟩
end
section
variable {B : Nat} {v : Value} {N : Int} {F : Nat -> Prop} {os : List Ob}
theorem ph_used {w : World} (h : PH B v N (wordsL os) F w) : usedL os <= 4194304:=by
 have hbd:=h.bd
 rw [wordsL_length] at hbd
 omega
end
theorem below_drew (w : World) : Below w.heap.size w w.drew:=⟨rfl,rfl,rfl,Nat.le_refl _,fun _ _=>rfl⟩
structure HE (B : Nat) (v : Value) (N : Int) (os : List Ob) (F : Nat -> Prop) (w : World) : Prop where
 ph : PH B v N (wordsL os) F w
 fine : OsOk os
def stM (os : List Ob) (a b : Int) : Int:=if (kindM os a).1 = (kindM os b).1 then (kindM os a).1 else 0
def mayB (os : List Ob) (a b : Int) : Bool:=(decide (1 <= stM os a b /\ stM os a b <= 4) && decide ((sizeM os a).1 = (sizeM os b).1)) || decide (stM os a b = 5)
section
variable {B : Nat} {v : Value} {N : Int} {os : List Ob} {F : Nat -> Prop} {w w' : World}
theorem HE.on (h : HE B v N os F w) (hb : Below w.heap.size w w') : HE B v N os F w':=⟨h.ph.keep (fun b e=>hb.block b (h.ph.ge b e).2),h.fine⟩
theorem HE.used (h : HE B v N os F w) : usedL os <= 4194304:=ph_used h.ph
theorem gete_at {p : Int} {k : Nat} (hf : findM os p = some k) {i : Nat} (hi : i < (os.getD k default).f.length) : getM os p 0 (i : Nat) = ((os.getD k default).f.getD i 0,0):=by
 have e : fieldM os p 0 (i : Nat) = ((k : Int),0):=by
  unfold fieldM
  rw [hf]
  simp only
  rw [if_neg (by simp),if_neg (by omega)]
 unfold getM
 rw [e,if_pos rfl]
 simp
theorem gete_u (ho : OsOk os) (x k i : Int) : U64 (getM os x k i).1:=by
 unfold getM
 split
 ·rename_i h
  obtain ⟨n,e1,e2,_,_,h4⟩:=fieldM_ok h
  rw [e1]
  simp only [Int.toNat_natCast]
  exact ho.uf _ (getD_in_os e2) _ (getD_in_f (by omega))
 ·show U64 0
  exact ⟨by decide,by decide⟩
theorem get_out {p : Int} {k : Nat} (hf : findM os p = some k) {i : Nat} (hi : (os.getD k default).f.length <= i) : getM os p 0 (i : Nat) = (0,2):=by
 have e : fieldM os p 0 (i : Nat) = (0,2):=by
  unfold fieldM
  rw [hf]
  simp only
  rw [if_neg (by simp),if_pos (by omega)]
 unfold getM
 rw [e,if_neg (by decide)]
theorem getM_nh (ho : OsOk os) (x k i : Int) (h : (getM os x k i).2 = 0) : isR 8 (getM os x k i).1 = false:=by
 unfold getM at h ⊢
 split at h
 ·rename_i h0
  rw [if_pos h0]
  obtain ⟨n,e1,e2,_,_,h4⟩:=fieldM_ok h0
  rw [e1]
  simp only [Int.toNat_natCast]
  exact ho.nh _ (getD_in_os e2) _ (getD_in_f (by omega))
 ·rename_i h0;exact absurd h h0
theorem efield_any (p i : Int) (hp : U64 p) (hi : Z64 i) (w : World) (h : HE B v N os F w) : Calls Tryz.prog 155 #[v,.int .u64 p,.int .i64 i] w fun e w'=>e = .returned (.tuple #[.int .u64 (getM os p 0 i).1,.bool (decide ((getM os p 0 i).2 = 0))]) /\ Below w.heap.size w w':=by
 have C:=hid (pget_any h.fine p 0 i hp (by unfold Z64;omega) hi w h.ph)
 have hu:=gete_u h.fine p 0 i
 have hn:=getM_nh h.fine p 0 i
 obtain ⟨gh,rfl⟩:=h.ph.ptr
 obtain ⟨z,hz⟩ : ∃ z,z = (getM os p 0 i).1:=⟨_,rfl⟩
 obtain ⟨er,her⟩ : ∃ z,z = (getM os p 0 i).2:=⟨_,rfl⟩
 rw [<- hz,<- her] at C hn
 rw [<- hz] at hu
 rw [<- hz,<- her]
 have CH : Hid (∀ W,_):=fun W=>headof_any z hu W
 obtain ⟨b8,hb8⟩ : ∃ b,b = isR 8 z:=⟨_,rfl⟩
 obtain ⟨kd,hkd⟩ : ∃ b,b = typR z:=⟨_,rfl⟩
 obtain ⟨sz,hsz⟩ : ∃ b,b = hasR 8 z:=⟨_,rfl⟩
 rw [<- hb8,<- hkd,<- hsz] at CH
 rw [<- hb8] at hn
 clear h hz her hb8 hkd hsz hu hi hp
 by_cases h0 : er = 0
 ·obtain rfl := hn h0
  subst h0
  go_enter Tryz.func155,Tryz.ntmps155
  go_wp2_with (first
   | (go_at_call 156;(with_reducible refine C.out.mono ?_);rintro e W1 ⟨rfl,b1⟩;have HB:=hid b1;clear b1)
   | (go_at_call 115;(with_reducible refine (CH.out _).mono ?_);rintro e W2 ⟨rfl,hw2⟩;rw [hw2];clear hw2))
  go_ret2
  exact ⟨rfl,HB.out⟩
 ·have e0 : (er == 0) = false := by simp [h0]
  have e1 : decide (er = 0) = false:=decide_eq_false h0
  rw [e1]
  clear e1 hn h0
  go_enter Tryz.func155,Tryz.ntmps155
  go_wp2_with (first
   | (go_at_call 156;(with_reducible refine C.out.mono ?_);rintro e W1 ⟨rfl,b1⟩;have HB:=hid b1;clear b1)
   | (go_at_call 115;(with_reducible refine (CH.out _).mono ?_);rintro e W2 ⟨rfl,hw2⟩;rw [hw2];clear hw2))
  go_ret2
  exact ⟨rfl,HB.out⟩
theorem etype_any (a b : Int) (ha : U64 a) (hb : U64 b) (w : World) (h : HE B v N os F w) : Calls Tryz.prog 95 #[v,.int .u64 a,.int .u64 b] w fun e w'=>e = .returned (.int .i64 (stM os a b)) /\ Below w.heap.size w w':=by
 have C1:=hid (pkind_any h.fine a ha w h.ph)
 have C2 : Hid (∀ W,Below w.heap.size w W -> _):=fun W hW=>pkind_any h.fine b hb W (h.on hW).ph
 obtain ⟨gh,rfl⟩:=h.ph.ptr
 unfold stM
 obtain ⟨k1,hk1⟩ : ∃ z,z = (kindM os a).1:=⟨_,rfl⟩
 obtain ⟨k2,hk2⟩ : ∃ z,z = (kindM os b).1:=⟨_,rfl⟩
 obtain ⟨q1,hq1⟩ : ∃ z,z = (kindM os a).2:=⟨_,rfl⟩
 obtain ⟨q2,hq2⟩ : ∃ z,z = (kindM os b).2:=⟨_,rfl⟩
 rw [<- hk1,<- hq1] at C1
 rw [<- hk2,<- hq2] at C2
 rw [<- hk1,<- hk2]
 clear h hk1 hk2 hq1 hq2 ha hb
 by_cases he : k1 = k2
 ·subst he
  rw [if_pos rfl]
  have e0 : (k1 != k1) = false:=by simp
  go_enter Tryz.func95,Tryz.ntmps95
  go_wp2_with (first
   | (go_at_call 73;(with_reducible refine C1.out.mono ?_);rintro e W1 ⟨rfl,b1⟩;have HB:=hid b1;clear b1)
   | (go_at_call 73;(with_reducible refine (C2.out W1 HB.out).mono ?_);rintro e W2 ⟨rfl,b2⟩;have HB2:=hid (HB.out.trans (b2.mono HB.out.size));clear b2))
  go_ret
  exact ⟨rfl,HB2.out⟩
 ·rw [if_neg he]
  have e0 : (k1 != k2) = true:=by simp [he]
  go_enter Tryz.func95,Tryz.ntmps95
  go_wp2_with (first
   | (go_at_call 73;(with_reducible refine C1.out.mono ?_);rintro e W1 ⟨rfl,b1⟩;have HB:=hid b1;clear b1)
   | (go_at_call 73;(with_reducible refine (C2.out W1 HB.out).mono ?_);rintro e W2 ⟨rfl,b2⟩;have HB2:=hid (HB.out.trans (b2.mono HB.out.size));clear b2))
  go_ret
  exact ⟨rfl,HB2.out⟩
theorem emay_any (a b : Int) (ha : U64 a) (hb : U64 b) (w : World) (h : HE B v N os F w) : Calls Tryz.prog 101 #[v,.int .u64 a,.int .u64 b] w fun e w'=>e = .returned (.bool (mayB os a b)) /\ Below w.heap.size w w':=by
 have C:=hid (etype_any a b ha hb w h)
 have C1 : Hid (∀ W,Below w.heap.size w W -> _):=fun W hW=>psize_any h.fine a ha W (h.on hW).ph
 have C2 : Hid (∀ W,Below w.heap.size w W -> _):=fun W hW=>psize_any h.fine b hb W (h.on hW).ph
 obtain ⟨gh,rfl⟩:=h.ph.ptr
 unfold mayB
 obtain ⟨st,hst⟩ : ∃ z,z = stM os a b:=⟨_,rfl⟩
 obtain ⟨k1,hk1⟩ : ∃ z,z = (sizeM os a).1:=⟨_,rfl⟩
 obtain ⟨k2,hk2⟩ : ∃ z,z = (sizeM os b).1:=⟨_,rfl⟩
 obtain ⟨q1,hq1⟩ : ∃ z,z = (sizeM os a).2:=⟨_,rfl⟩
 obtain ⟨q2,hq2⟩ : ∃ z,z = (sizeM os b).2:=⟨_,rfl⟩
 rw [<- hst] at C
 rw [<- hk1,<- hq1] at C1
 rw [<- hk2,<- hq2] at C2
 rw [<- hk1,<- hk2,<- hst]
 clear h hk1 hk2 hq1 hq2 hst ha hb
 by_cases h4 : 1 <= st /\ st <= 4
 ·have e5 : decide (st = 5) = false := decide_eq_false (by omega)
  rw [decide_eq_true h4,e5]
  have hc : st = 1 \/ st = 2 \/ st = 3 \/ st = 4:=by omega
  obtain ⟨bb,hbb⟩ : ∃ b,b = decide (k1 = k2):=⟨_,rfl⟩
  rw [<- hbb]
  have ebb : (k1 == k2) = bb:=by rw [hbb];rfl
  clear hbb h4 e5
  rcases hc with rfl | rfl | rfl | rfl
  all_goals
   go_enter Tryz.func101,Tryz.ntmps101
   go_wp2_with (first
    | (go_at_call 95;(with_reducible refine C.out.mono ?_);rintro e W1 ⟨rfl,b1⟩;have HB:=hid b1;clear b1)
    | (go_at_call 153;(with_reducible refine (C1.out W1 HB.out).mono ?_);rintro e W2 ⟨rfl,b2⟩;have HB2:=hid (HB.out.trans (b2.mono HB.out.size));clear b2)
    | (go_at_call 153;(with_reducible refine (C2.out W2 HB2.out).mono ?_);rintro e W3 ⟨rfl,b3⟩;have HB3:=hid (HB2.out.trans (b3.mono HB2.out.size));clear b3))
   go_ret
   exact ⟨by simp,HB3.out⟩
 ·rw [decide_eq_false h4]
  have n1 : (st == 1) = false:=by simp;omega
  have n2 : (st == 2) = false:=by simp;omega
  have n3 : (st == 3) = false:=by simp;omega
  have n4 : (st == 4) = false:=by simp;omega
  obtain ⟨bb,hbb⟩ : ∃ b,b = decide (st = 5):=⟨_,rfl⟩
  rw [<- hbb]
  have ebb : (st == 5) = bb:=by rw [hbb];rfl
  clear hbb h4
  cases bb
  all_goals
   go_enter Tryz.func101,Tryz.ntmps101
   go_wp2_with (go_at_call 95;(with_reducible refine C.out.mono ?_);rintro e W1 ⟨rfl,b1⟩;have HB:=hid b1;clear b1)
   go_ret
   exact ⟨by simp,HB.out⟩
theorem esame1_any (a b : Int) (w : World) : Calls Tryz.prog 149 #[.int .u64 a,.int .u64 b] w fun e w'=>e = .returned (.bool (decide (a = b))) /\ w' = w:=by
 obtain ⟨bb,hbb⟩ : ∃ x,x = decide (a = b):=⟨_,rfl⟩
 rw [<- hbb]
 have ebb : (a == b) = bb:=by rw [hbb];rfl
 clear hbb
 go_enter Tryz.func149,Tryz.ntmps149
 go_wp2
 go_ret
 exact ⟨rfl,rfl⟩
theorem take_ext {f g : List Int} {q : Nat} (h : f.take q = g.take q) (h1 : q < f.length) (h2 : q < g.length) (e : f.getD q 0 = g.getD q 0) : f.take (q + 1) = g.take (q + 1):=by
 rw [List.take_succ_eq_append_getElem h1,List.take_succ_eq_append_getElem h2,h]
 rw [List.getD_eq_getElem?_getD,List.getElem?_eq_getElem h1,List.getD_eq_getElem?_getD,List.getElem?_eq_getElem h2] at e
 have e : f[q] = g[q]:=e
 rw [e]
theorem take_end {f g : List Int} {q : Nat} (h : f.take q = g.take q) (h1 : q <= f.length) (h2 : q <= g.length) (hn : ¬ (q < f.length /\ q < g.length)) : decide (f = g) = (decide (q < f.length) == decide (q < g.length)):=by
 by_cases e : f.length = g.length
 ·rw [List.take_of_length_le (by omega), List.take_of_length_le (by omega)] at h
  rw [decide_eq_true h,e];simp
 ·rw [decide_eq_false (fun e' => e (by rw [e']))]
  by_cases e1 : q < f.length
  ·rw [decide_eq_true e1,decide_eq_false (by omega)];rfl
  ·rw [decide_eq_false e1,decide_eq_true (by omega)];rfl
set_option maxHeartbeats 4000000 in
theorem esames_any (a b : Int) (ha : U64 a) (hb : U64 b) (w : World) (h : HE B v N os F w) {i k : Nat} (hi : findM os a = some i) (hk : findM os b = some k) : Calls Tryz.prog 103 #[v,.int .u64 a,.int .u64 b,.func (.func 149) #[] #[]] w fun e w'=>e = .returned (.bool (decide ((os.getD i default).f = (os.getD k default).f))) /\ Below w.heap.size w w':=by
 have hl1:=at_lt (findM_lt hi).1
 have hl2:=at_lt (findM_lt hk).1
 have hus:=h.used
 have K1 : Hid (∀ (j : Nat) W,j <= (os.getD i default).f.length -> Below w.heap.size w W -> Calls Tryz.prog 155 #[v,.int .u64 a,.int .i64 j] W fun e w'=>∃ z,e = .returned (.tuple #[.int .u64 z,.bool (decide (j < (os.getD i default).f.length))]) /\ (j < (os.getD i default).f.length -> z = (os.getD i default).f.getD j 0) /\ Below W.heap.size W w'):=fun j W hj hW=>by
  refine (efield_any a j ha (by unfold Z64;omega) W (h.on hW)).mono ?_
  rintro e w' ⟨rfl,hb⟩
  by_cases e : j < (os.getD i default).f.length
  ·rw [gete_at hi e,decide_eq_true e];exact ⟨_,rfl,fun _=>rfl,hb⟩
  ·rw [get_out hi (by omega),decide_eq_false e];exact ⟨_,rfl,fun h=>absurd h e,hb⟩
 have K2 : Hid (∀ (j : Nat) W,j <= (os.getD k default).f.length -> Below w.heap.size w W -> Calls Tryz.prog 155 #[v,.int .u64 b,.int .i64 j] W fun e w'=>∃ z,e = .returned (.tuple #[.int .u64 z,.bool (decide (j < (os.getD k default).f.length))]) /\ (j < (os.getD k default).f.length -> z = (os.getD k default).f.getD j 0) /\ Below W.heap.size W w'):=fun j W hj hW=>by
  refine (efield_any b j hb (by unfold Z64;omega) W (h.on hW)).mono ?_
  rintro e w' ⟨rfl,hb⟩
  by_cases e : j < (os.getD k default).f.length
  ·rw [gete_at hk e,decide_eq_true e];exact ⟨_,rfl,fun _=>rfl,hb⟩
  ·rw [get_out hk (by omega),decide_eq_false e];exact ⟨_,rfl,fun h=>absurd h e,hb⟩
 obtain ⟨gh,rfl⟩:=h.ph.ptr
 obtain ⟨f,hf⟩ : ∃ f,f = (os.getD i default).f:=⟨_,rfl⟩
 obtain ⟨g,hg⟩ : ∃ f,f = (os.getD k default).f:=⟨_,rfl⟩
 rw [<- hf] at K1 hl1
 rw [<- hg] at K2 hl2
 rw [<- hf,<- hg]
 clear h hi hk hf hg ha hb
 obtain ⟨nf,hnf⟩ : ∃ n,n = f.length:=⟨_,rfl⟩
 obtain ⟨ng,hng⟩ : ∃ n,n = g.length:=⟨_,rfl⟩
 have HNF:=hid hnf
 have HNG:=hid hng
 rw [<- hnf] at K1 hl1
 rw [<- hng] at K2 hl2
 have hm1 : nf <= 4194304:=by omega
 clear hnf hng hl1 hl2 hus
 go_enter Tryz.func103,Tryz.ntmps103
 go_wp2_with fail
 go_loopw [9] (fun i wr=>∃ q : Nat,q <= nf /\ i = .int .i64 q /\ Hid (q <= ng /\ f.take q = g.take q /\ Below w.heap.size w wr)) (fun i _=>nf - (intOf i).toNat)
 case atStart=>exact ⟨0,Nat.zero_le _,rfl,Nat.zero_le _,by simp,Below.refl _ _⟩
 case round =>
  obtain ⟨q,hq,rfl,hI⟩:=hrel
  obtain ⟨hq2,htk,hbel⟩:=hI.out
  have HTK:=hid htk
  have HBR:=hid hbel
  clear hI htk hbel
  have C1:=hid (K1.out q wr hq HBR.out)
  have C2 : Hid (∀ W,Below wr.heap.size wr W -> _):=fun W hW=>K2.out q W hq2 (HBR.out.trans (hW.mono HBR.out.size))
  obtain ⟨b1,hb1⟩ : ∃ b,b = decide (q < nf):=⟨_,rfl⟩
  obtain ⟨b2,hb2⟩ : ∃ b,b = decide (q < ng):=⟨_,rfl⟩
  rw [<- hb1] at C1
  rw [<- hb2] at C2
  have HE1:=hid hb1
  have HE2:=hid hb2
  clear hb1 hb2
  have fin : b1 = false \/ b2 = false -> Hid (decide (f = g) = (b1 == b2)):=fun hh=>by
   unfold Hid
   rw [HE1.out,HE2.out,HNF.out,HNG.out]
   refine take_end HTK.out (by rw [<- HNF.out];exact hq) (by rw [<- HNG.out];exact hq2) (fun e=>?_)
   rw [<- HNF.out,<- HNG.out] at e
   rcases hh with hh | hh
   ·rw [HE1.out,decide_eq_true e.1] at hh;cases hh
   ·rw [HE2.out,decide_eq_true e.2] at hh;cases hh
  cases b1
  ·have FIN := fin (.inl rfl)
   clear fin
   cases b2
   all_goals
    go_wp2_with (first
     | (go_at_call 155;(with_reducible refine C1.out.mono ?_);rintro e W1 ⟨z1,rfl,hz1,b1⟩;have HZ1:=hid hz1;have HB1:=hid b1;clear b1 hz1)
     | (go_at_call 155;(with_reducible refine (C2.out W1 HB1.out).mono ?_);rintro e W2 ⟨z2,rfl,hz2,b2⟩;have HZ2:=hid hz2;have HB2:=hid (HB1.out.trans (b2.mono HB1.out.size));clear b2 hz2))
    go_ret
    exact ⟨by rw [FIN.out];rfl,HBR.out.trans (HB2.out.mono HBR.out.size)⟩
  ·cases b2
   ·have FIN := fin (.inr rfl)
    clear fin
    go_wp2_with (first
     | (go_at_call 155;(with_reducible refine C1.out.mono ?_);rintro e W1 ⟨z1,rfl,hz1,b1⟩;have HZ1:=hid hz1;have HB1:=hid b1;clear b1 hz1)
     | (go_at_call 155;(with_reducible refine (C2.out W1 HB1.out).mono ?_);rintro e W2 ⟨z2,rfl,hz2,b2⟩;have HZ2:=hid hz2;have HB2:=hid (HB1.out.trans (b2.mono HB1.out.size));clear b2 hz2))
    go_ret
    exact ⟨by rw [FIN.out];rfl,HBR.out.trans (HB2.out.mono HBR.out.size)⟩
   ·have hlt : q < nf := of_decide_eq_true HE1.out.symm
    have hlt2 : q < ng:=of_decide_eq_true HE2.out.symm
    clear fin
    have hne : Hid (f.getD q 0 ≠ g.getD q 0 -> decide (f = g) = false):=fun hh=>decide_eq_false (fun e=>hh (by rw [e]))
    have hext : Hid (f.getD q 0 = g.getD q 0 -> f.take (q + 1) = g.take (q + 1)):=fun hh=>take_ext HTK.out (by rw [<- HNF.out];exact hlt) (by rw [<- HNG.out];exact hlt2) hh
    obtain ⟨x1,hx1⟩ : ∃ x,x = f.getD q 0:=⟨_,rfl⟩
    obtain ⟨x2,hx2⟩ : ∃ x,x = g.getD q 0:=⟨_,rfl⟩
    rw [<- hx1] at C1 hne hext
    rw [<- hx2] at C2 hne hext
    clear hx1 hx2
    have CS : Hid (∀ W,_):=fun W=>esame1_any x1 x2 W
    by_cases hxx : x1 = x2
    ·have HX := hid (hext.out hxx)
     rw [decide_eq_true hxx] at CS
     clear hxx hne hext
     go_wp2_with (first
      | (go_at_call 155;(with_reducible refine C1.out.mono ?_);rintro e W1 ⟨z1,rfl,hz1,b1⟩;obtain rfl:=hz1 hlt;have HB1:=hid b1;clear b1 hz1)
      | (go_at_call 155;(with_reducible refine (C2.out W1 HB1.out).mono ?_);rintro e W2 ⟨z2,rfl,hz2,b2⟩;obtain rfl:=hz2 hlt2;have HB2:=hid (HB1.out.trans (b2.mono HB1.out.size));clear b2 hz2)
      | (go_at_call 149;(with_reducible refine (CS.out _).mono ?_);rintro e W3 ⟨rfl,hw3⟩;rw [hw3];clear hw3))
     exact ⟨⟨q + 1,by omega,by go_num,by omega,HX.out,HBR.out.trans (HB2.out.mono HBR.out.size)⟩,by simp [intOf] <;> omega⟩
    ·have HX := hid (hne.out hxx)
     rw [decide_eq_false hxx] at CS
     clear hxx hne hext
     go_wp2_with (first
      | (go_at_call 155;(with_reducible refine C1.out.mono ?_);rintro e W1 ⟨z1,rfl,hz1,b1⟩;obtain rfl:=hz1 hlt;have HB1:=hid b1;clear b1 hz1)
      | (go_at_call 155;(with_reducible refine (C2.out W1 HB1.out).mono ?_);rintro e W2 ⟨z2,rfl,hz2,b2⟩;obtain rfl:=hz2 hlt2;have HB2:=hid (HB1.out.trans (b2.mono HB1.out.size));clear b2 hz2)
      | (go_at_call 149;(with_reducible refine (CS.out _).mono ?_);rintro e W3 ⟨rfl,hw3⟩;rw [hw3];clear hw3))
     go_ret
     exact ⟨by rw [HX.out];rfl,HBR.out.trans (HB2.out.mono HBR.out.size)⟩
theorem esamef_any (a b : Int) (ha : U64 a) (hb : U64 b) (w : World) (h : HE B v N os F w) {i k : Nat} (hi : findM os a = some i) (hk : findM os b = some k) : Calls Tryz.prog 96 #[v,.int .u64 a,.int .u64 b] w fun e w'=>e = .returned (.bool (decide ((os.getD i default).f = (os.getD k default).f))) /\ Below w.heap.size w w':=by
 have C:=hid (esames_any a b ha hb w h hi hk)
 obtain ⟨gh,rfl⟩:=h.ph.ptr
 obtain ⟨bb,hbb⟩ : ∃ x,x = decide ((os.getD i default).f = (os.getD k default).f):=⟨_,rfl⟩
 rw [<- hbb] at C ⊢
 clear h hi hk ha hb hbb
 go_enter Tryz.func96,Tryz.ntmps96
 go_wp2_with (go_at_call 103;(with_reducible refine C.out.mono ?_);rintro e W1 ⟨rfl,b1⟩;have HB:=hid b1;clear b1)
 go_ret
 exact ⟨rfl,HB.out⟩
end
end Go.Proofs.YticimejfjjmikaaGreatDoor
