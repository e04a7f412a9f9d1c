import Derived.Test.YticimejfjjmikaaGreatDoorV9a
import Derived.Laws.CopyRow
import Derived.Laws.IdiomCopy
set_option linter.unusedVariables false
set_option linter.unusedSimpArgs false
set_option maxRecDepth 100000
namespace Go.Proofs.YticimejfjjmikaaGreatDoor
open Go.RowKit
section
variable {B : Nat} {v : Value} {N : Int} {F : Nat -> Prop} {os : List Ob}
theorem q_nofield {p kind i : Int} (ho : OsOk os) (hp : U64 p) (hk : Z64 kind) (hi : Z64 i) (hf : (fieldM os p kind i).2 ≠ 0) (w : World) (h : PH B v N (wordsL os) F w) :
  Calls Tryz.prog 71 #[v,.int .u64 p,.int .i64 kind,.int .i64 i] w fun e w'=>e = .returned (.tuple #[.int .i64 0,.int .i64 (fieldM os p kind i).2]) /\ w' = w:=by
 have H:=hid h
 have hbd:=h.bd
 rw [wordsL_length] at hbd
 obtain ⟨gh,rfl⟩:=h.ptr
 clear h
 cases hfd : findM os p with
 | none =>
  have e1 : (fieldM os p kind i).2 = 70:=by unfold fieldM;rw [hfd]
  rw [e1]
  have C:=hid (q_none ho hp hfd w H.out)
  clear hfd H hf e1
  go_enter Tryz.func71,Tryz.ntmps71
  go_wp2_with (go_at_call 117;(with_reducible refine C.out.mono ?_);rintro e W1 ⟨rfl,hw1⟩;rw [hw1];clear hw1)
  go_ret2
  exact ⟨rfl,rfl⟩
 | some k =>
  have C:=hid (q_some ho hp hfd w H.out)
  have hkl:=(findM_lt hfd).1
  have hal:=at_lt hkl
  have hxk:=ho.kd _ (getD_in_os hkl)
  have hfe : Hid (fieldM os p kind i = if kind ≠ 0 /\ (os.getD k default).kind ≠ kind then (0,70) else if i < 0 \/ ((os.getD k default).f.length : Int) <= i then (0,2) else ((k : Int),0)):=by unfold Hid fieldM;rw [hfd]
  obtain ⟨x,hx⟩ : ∃ x,x = os.getD k default:=⟨_,rfl⟩
  rw [<- hx] at C hal hxk hfe
  obtain ⟨a,ha⟩ : ∃ a,a = atO os k:=⟨_,rfl⟩
  rw [<- ha] at C hal
  obtain ⟨xk,xf⟩:=x
  simp only at C hal hxk hfe
  obtain ⟨fl,hfl⟩ : ∃ q,q = xf.length:=⟨_,rfl⟩
  rw [<- hfl] at C hal hfe
  unfold Z64 at hk hi
  clear hx ha hfl hfd hkl H
  by_cases h1 : kind ≠ 0 /\ xk ≠ kind
  ·have e1 := hfe.out.trans (if_pos h1)
   rw [e1]
   obtain ⟨h2,h3⟩:=h1
   have ek : (kind != xk) = true:=by simp;omega
   have ek0 : (kind != 0) = true:=by simp;omega
   clear hf hfe e1
   go_enter Tryz.func71,Tryz.ntmps71
   go_wp2_with (go_at_call 117;(with_reducible refine C.out.mono ?_);rintro e W1 ⟨rfl,hw1⟩;rw [hw1];clear hw1)
   go_ret2
   exact ⟨rfl,rfl⟩
  ·by_cases h2 : i < 0 \/ (fl : Int) <= i
   ·have e1 := hfe.out.trans ((if_neg h1).trans (if_pos h2))
    rw [e1]
    clear hf hfe e1
    by_cases hk0 : kind = 0
    ·subst hk0
     by_cases h3 : i < 0
     ·go_enter Tryz.func71, Tryz.ntmps71
      go_wp2_with (go_at_call 117;(with_reducible refine C.out.mono ?_);rintro e W1 ⟨rfl,hw1⟩;rw [hw1];clear hw1)
      go_ret2
      exact ⟨rfl,rfl⟩
     ·have h4 : (fl : Int) <= i := by omega
      go_enter Tryz.func71,Tryz.ntmps71
      go_wp2_with (go_at_call 117;(with_reducible refine C.out.mono ?_);rintro e W1 ⟨rfl,hw1⟩;rw [hw1];clear hw1)
      go_ret2
      exact ⟨rfl,rfl⟩
    ·obtain rfl : kind = xk := by omega
     have ek : (kind != kind) = false:=by simp
     have ek0 : (kind != 0) = true:=by simp;omega
     by_cases h3 : i < 0
     ·go_enter Tryz.func71, Tryz.ntmps71
      go_wp2_with (go_at_call 117;(with_reducible refine C.out.mono ?_);rintro e W1 ⟨rfl,hw1⟩;rw [hw1];clear hw1)
      go_ret2
      exact ⟨rfl,rfl⟩
     ·have h4 : (fl : Int) <= i := by omega
      go_enter Tryz.func71,Tryz.ntmps71
      go_wp2_with (go_at_call 117;(with_reducible refine C.out.mono ?_);rintro e W1 ⟨rfl,hw1⟩;rw [hw1];clear hw1)
      go_ret2
      exact ⟨rfl,rfl⟩
   ·exact absurd (by rw [hfe.out,if_neg h1,if_neg h2]) hf
theorem pget_any (ho : OsOk os) (p kind i : Int) (hp : U64 p) (hk : Z64 kind) (hi : Z64 i) (w : World) (h : PH B v N (wordsL os) F w) :
  Calls Tryz.prog 156 #[v,.int .u64 p,.int .i64 kind,.int .i64 i] w fun e w'=>e = .returned (.tuple #[.int .u64 (getM os p kind i).1,.int .i64 (getM os p kind i).2]) /\ Below w.heap.size w w':=by
 by_cases hf : (fieldM os p kind i).2 = 0
 ·obtain ⟨k, e1, hkl, hfd, h0, h1⟩ := fieldM_ok hf
  have C:=hid (q_field ho hp hk hi e1 w h)
  have e2 : getM os p kind i = ((os.getD k default).f.getD i.toNat 0,0):=by unfold getM;rw [if_pos hf,e1];rfl
  rw [e2]
  have hal:=at_lt hkl
  obtain ⟨j,rfl⟩ : ∃ j : Nat,i = (j : Int):=⟨i.toNat,by omega⟩
  rw [Int.toNat_natCast]
  have e3:=word_field (os:=os) (k:=k) (j:=j) hkl (by omega)
  obtain ⟨gh,gw,n,rest,rfl,hp⟩:=h.opened
  have c0:=hp.c0
  have cw:=hp.word' (i:=atO os k + 1 + j) (by rw [wordsL_length];omega)
  rw [e3] at cw
  have hul:=hp.used_le
  have hnn:=hp.nn
  have hbd:=hp.bd
  rw [wordsL_length] at hul hbd
  obtain ⟨z,hz⟩ : ∃ z,z = (os.getD k default).f.getD j 0:=⟨_,rfl⟩
  rw [<- hz] at cw ⊢
  obtain ⟨a,ha⟩ : ∃ a,a = atO os k:=⟨_,rfl⟩
  rw [<- ha] at C cw hal
  have hlt : a + 1 + j < n:=by omega
  have e4 : ((a : Int) + 1 + j) = ((a + 1 + j : Nat) : Int):=by omega
  rw [e4] at C
  obtain ⟨q,hq⟩ : ∃ q,q = a + 1 + j:=⟨_,rfl⟩
  rw [<- hq] at C cw hlt
  simp only
  clear h hp hz ha e1 e2 e3 e4 hf hfd hkl hk hi h0 h1 hal hq
  go_enter Tryz.func156,Tryz.ntmps156
  go_wp2_with (go_at_call 71;(with_reducible refine C.out.mono ?_);rintro e W1 ⟨rfl,hw1⟩;rw [hw1];clear hw1)
  go_ret2
  exact ⟨rfl,Below.refl _ _⟩
 ·have C := hid (q_nofield ho hp hk hi hf w h)
  have e2 : getM os p kind i = (0,(fieldM os p kind i).2):=by unfold getM;rw [if_neg hf]
  rw [e2]
  obtain ⟨gh,rfl⟩:=h.ptr
  obtain ⟨q,hq⟩ : ∃ q,q = (fieldM os p kind i).2:=⟨_,rfl⟩
  rw [<- hq] at C hf ⊢
  simp only
  have ek : (q != 0) = true:=by simp;omega
  clear h hq e2
  go_enter Tryz.func156,Tryz.ntmps156
  go_wp2_with (go_at_call 71;(with_reducible refine C.out.mono ?_);rintro e W1 ⟨rfl,hw1⟩;rw [hw1];clear hw1)
  go_ret2
  exact ⟨rfl,Below.refl _ _⟩
theorem q_ishead (z : Int) (hz : U64 z) (w : World) : Calls Tryz.prog 66 #[.int .u64 z] w fun e w'=>e = .returned (.bool (isHd z)) /\ w' = w:=by
 have C:=hid (headof_any z hz w)
 have e0 : isR 8 z = isHd z:=rfl
 rw [e0] at C
 obtain ⟨b,hb⟩ : ∃ b,b = isHd z:=⟨_,rfl⟩
 obtain ⟨kd,hkd⟩ : ∃ k,k = typR z:=⟨_,rfl⟩
 obtain ⟨sz,hsz⟩ : ∃ k,k = hasR 8 z:=⟨_,rfl⟩
 rw [<- hb,<- hkd,<- hsz] at C
 rw [<- hb]
 clear hb hkd hsz e0
 go_enter Tryz.func66,Tryz.ntmps66
 go_wp2_with (go_at_call 115;(with_reducible refine C.out.mono ?_);rintro e W1 ⟨rfl,hw1⟩;rw [hw1];clear hw1)
 go_ret
 exact ⟨rfl,rfl⟩
theorem istype_any (k : Int) (hk : Z64 k) (w : World) : Calls Tryz.prog 65 #[.int .i64 k] w fun e w'=>e = .returned (.bool (!decide (k < 1 \/ 22 < k))) /\ w' = w:=by
 by_cases h1 : k < 1
 ·have hd : decide (k < 1 \/ 22 < k) = true := decide_eq_true (.inl h1)
  rw [hd]
  go_enter Tryz.func65,Tryz.ntmps65
  go_wp2
  go_ret
  exact ⟨rfl,rfl⟩
 ·by_cases h2 : 22 < k
  ·have hd : decide (k < 1 \/ 22 < k) = true := decide_eq_true (.inr h2)
   rw [hd]
   have e1 : decide (k <= 22) = false:=decide_eq_false (by omega)
   clear hd
   go_enter Tryz.func65,Tryz.ntmps65
   go_wp2
   go_ret
   exact ⟨rfl,rfl⟩
  ·have hd : decide (k < 1 \/ 22 < k) = false := decide_eq_false (by omega)
   rw [hd]
   have e1 : decide (k <= 22) = true:=decide_eq_true (by omega)
   clear hd
   go_enter Tryz.func65,Tryz.ntmps65
   go_wp2
   go_ret
   exact ⟨rfl,rfl⟩
theorem words_set {k j : Nat} (h : k < os.length) (hj : j < (os.getD k default).f.length) (z : Int) : wordsL (os.set k (setF (os.getD k default) j z)) = (wordsL os).set (atO os k + 1 + j) z:=by
 have e1 : os = os.take k ++ (os.getD k default :: os.drop (k + 1)):=by
  have:=(List.take_append_drop k os).symm
  rw [List.drop_eq_getElem_cons h] at this
  rw [List.getD_eq_getElem?_getD,List.getElem?_eq_getElem h];exact this
 have hkl : (os.take k).length = k:=by rw [List.length_take];omega
 have e2 : os.set k (setF (os.getD k default) j z) = os.take k ++ (setF (os.getD k default) j z :: os.drop (k + 1)):=by
  rw [List.set_eq_take_append_cons_drop,if_pos h]
 have hat : (wordsL (os.take k)).length = atO os k:=by rw [wordsL_length];rfl
 rw [e2]
 conv=>rhs;rw [e1]
 rw [wordsL_append,wordsL_append,List.set_append_right _ _ (by rw [hat];unfold atO;rw [<- e1];omega)]
 have hat2 : atO (os.take k ++ (os.getD k default :: os.drop (k + 1))) k = atO os k:=by rw [<- e1]
 rw [hat2,hat,show atO os k + 1 + j - atO os k = j + 1 by omega]
 simp only [wordsL,List.set_cons_succ,setF,List.length_set]
 rw [List.set_append_left _ _ hj]
theorem pset_any (ho : OsOk os) (p kind i z : Int) (hp : U64 p) (hk : Z64 kind) (hi : Z64 i) (hz : U64 z) (w : World) (h : PH B v N (wordsL os) F w) (hB : B <= w.heap.size) :
  Calls Tryz.prog 36 #[v,.int .u64 p,.int .i64 kind,.int .i64 i,.int .u64 z] w fun e w'=>e = .returned (.int .i64 (setM os p kind i z).2) /\ PPost B v N F w (wordsL (setM os p kind i z).1) w':=by
 have same : PPost B v N F w (wordsL os) w:=⟨F,h,fun b hb=>.inl hb,Mod.refl F w⟩
 by_cases hf : (fieldM os p kind i).2 = 0
 ·obtain ⟨k, e1, hkl, hfd, h0, h1⟩ := fieldM_ok hf
  have C:=hid (q_field ho hp hk hi e1 w h)
  have CH:=hid (q_ishead z hz w)
  by_cases h8 : isHd z = true
  ·have e2 : setM os p kind i z = (os, 1) := by
    unfold setM;rw [if_neg (by simpa using hf),if_pos (of_decide_eq_true h8)]
   rw [e2]
   rw [h8] at CH
   obtain ⟨gh,rfl⟩:=h.ptr
   have S:=hid same
   obtain ⟨q,hq⟩ : ∃ q,q = ((atO os k : Nat) : Int) + 1 + i:=⟨_,rfl⟩
   rw [<- hq] at C
   simp only
   clear h hq e1 e2 hf hfd hkl hk hi h0 h1 same hz h8
   go_enter Tryz.func36,Tryz.ntmps36
   go_wp2_with (first
    | (go_at_call 71;(with_reducible refine C.out.mono ?_);rintro e W1 ⟨rfl,hw1⟩;rw [hw1];clear hw1)
    | (go_at_call 66;(with_reducible refine CH.out.mono ?_);rintro e W1 ⟨rfl,hw1⟩;rw [hw1];clear hw1))
   go_ret
   exact ⟨rfl,S.out⟩
  ·have h8' : isHd z = false := by simpa using h8
   have e2 : setM os p kind i z = (os.set k (setF (os.getD k default) i.toNat z),0):=by
    unfold setM;rw [if_neg (by simpa using hf),if_neg (of_decide_eq_false h8'),e1];rfl
   rw [e2]
   rw [h8'] at CH
   have hal:=at_lt hkl
   obtain ⟨j,rfl⟩ : ∃ j : Nat,i = (j : Int):=⟨i.toNat,by omega⟩
   rw [Int.toNat_natCast]
   simp only
   rw [words_set hkl (by omega)]
   obtain ⟨gh,gw,n,rest,rfl,hp⟩:=h.opened
   have HP:=hid hp
   have hbd:=hp.bd
   have hul:=hp.used_le
   rw [wordsL_length] at hbd hul
   have hlw : Hid (atO os k + 1 + j < (wordsL os).length):=by unfold Hid;rw [wordsL_length];omega
   have c0:=hp.c0
   have cw:=hp.word' hlw.out
   have fw:=blk_free hp.row (atO os k + 1 + j)
   have hnn:=hp.nn
   have HZ:=hid hz
   have e4 : (((atO os k : Nat) : Int) + 1 + j) = ((atO os k + 1 + j : Nat) : Int):=by omega
   rw [e4] at C
   have hlt : atO os k + 1 + j < n:=by omega
   obtain ⟨q,hq⟩ : ∃ q,q = atO os k + 1 + j:=⟨_,rfl⟩
   rw [<- hq] at C cw fw hlt hlw ⊢
   obtain ⟨y,hy⟩ : ∃ y,y = (wordsL os).getD q 0:=⟨_,rfl⟩
   rw [<- hy] at cw
   clear h hp hy hq e1 e2 e4 hf hfd hkl hk hi h0 h1 same hz h8 h8' hal
   go_enter Tryz.func36,Tryz.ntmps36
   go_wp2_with (first
    | (go_at_call 71;(with_reducible refine C.out.mono ?_);rintro e W1 ⟨rfl,hw1⟩;rw [hw1];clear hw1)
    | (go_at_call 66;(with_reducible refine CH.out.mono ?_);rintro e W1 ⟨rfl,hw1⟩;rw [hw1];clear hw1))
   go_ret
   obtain ⟨q1,q2⟩:=HP.out.put hlw.out HZ.out
   exact ⟨rfl,F,q1.shut,fun b hb=>.inl hb,q2⟩
 ·have C := hid (q_nofield ho hp hk hi hf w h)
  have e2 : setM os p kind i z = (os,(fieldM os p kind i).2):=by unfold setM;rw [if_pos hf]
  rw [e2]
  obtain ⟨gh,rfl⟩:=h.ptr
  obtain ⟨q,hq⟩ : ∃ q,q = (fieldM os p kind i).2:=⟨_,rfl⟩
  rw [<- hq] at C hf ⊢
  simp only
  have ek : (q != 0) = true:=by simp;omega
  have S:=hid same
  clear h hq e2 same
  go_enter Tryz.func36,Tryz.ntmps36
  go_wp2_with (go_at_call 71;(with_reducible refine C.out.mono ?_);rintro e W1 ⟨rfl,hw1⟩;rw [hw1];clear hw1)
  go_ret
  exact ⟨rfl,S.out⟩
end
theorem q_any_at {fl : List Int} {q : Nat} (hq : q < fl.length) (hz : isHd (fl.getD q 0) = true) : fl.any isHd = true :=
 List.any_eq_true.2 ⟨_,getD_in_f hq,hz⟩
set_option maxHeartbeats 2000000 in
theorem index_any (ao : Option Addr) (n cap : Nat) (fl : List Int) (w : World) (R : URow w ao n cap fl) :
  Calls Tryz.prog 144 #[.slice ao n cap,.func (.func 66) #[] #[]] w fun e w'=>∃ r : Int,e = .returned (.int .i64 r) /\ fl.any isHd = decide (0 <= r) /\ w' = w:=by
 have HR:=hid R
 have hf:=R.fits
 have hm:=R.most
 have hln:=R.len
 unfold maxLen at hm
 clear R
 go_enter Tryz.func144,Tryz.ntmps144
 go_wp2_with fail
 go_loop [8] (fun i=>∃ q : Nat,q <= n /\ i = .int .i64 q /\ Hid ((fl.take q).any isHd = false)) (fun i=>n - (intOf i).toNat)
 case atStart=>exact ⟨0,Nat.zero_le _,rfl,by simp [Hid]⟩
 case round =>
  obtain ⟨q,hq,rfl,hI⟩:=hrel
  by_cases hlt : q < n
  ·obtain ⟨b, o, rfl, hlb, hcc⟩ := HR.out.some (by omega)
   have hc:=hcc q hlt
   have hzu:=HR.out.bd _ (getD_in_f (l:=fl) (i:=q) (by omega))
   obtain ⟨z,hz⟩ : ∃ z,z = fl.getD q 0:=⟨_,rfl⟩
   rw [<- hz] at hc hzu
   have HZ:=hid hz
   have C:=hid (q_ishead z hzu w)
   obtain ⟨bb,hbb⟩ : ∃ x,x = isHd z:=⟨_,rfl⟩
   rw [<- hbb] at C
   have HBB:=hid hbb
   clear hcc hz hzu hbb
   cases bb
   ·go_wp2_with (go_at_call 66; (with_reducible refine C.out.mono ?_); rintro e W1 ⟨rfl, hw1⟩; rw [hw1]; clear hw1)
    exact ⟨⟨q + 1,by omega,by go_num,any_take hI.out (by omega) (by rw [<- HZ.out];exact HBB.out.symm)⟩,by simp [intOf] <;> omega⟩
   ·go_wp2_with (go_at_call 66; (with_reducible refine C.out.mono ?_); rintro e W1 ⟨rfl, hw1⟩; rw [hw1]; clear hw1)
    go_ret
    exact ⟨q,rfl,by rw [q_any_at (q:=q) (by omega) (by rw [<- HZ.out];exact HBB.out.symm),decide_eq_true (by omega)],rfl⟩
  ·obtain rfl : q = n := by omega
   go_wp2_with fail
   go_ret
   refine ⟨-1,rfl,?_,rfl⟩
   have:=hI.out
   rw [List.take_of_length_le (by omega)] at this
   rw [this];rfl
theorem contains_any (ao : Option Addr) (n cap : Nat) (fl : List Int) (w : World) (R : URow w ao n cap fl) :
  Calls Tryz.prog 88 #[.slice ao n cap,.func (.func 66) #[] #[]] w fun e w'=>e = .returned (.bool (fl.any isHd)) /\ w' = w:=by
 have C:=hid (index_any ao n cap fl w R)
 clear R
 obtain ⟨b,hb⟩ : ∃ b,b = fl.any isHd:=⟨_,rfl⟩
 rw [<- hb] at C ⊢
 clear hb
 go_enter Tryz.func88,Tryz.ntmps88
 go_wp2_with (go_at_call 144;(with_reducible refine C.out.mono ?_);rintro e W1 ⟨r,rfl,hr,hw1⟩;rw [hw1];clear hw1;have HR:=hid hr;clear hr)
 go_ret
 refine ⟨?_,rfl⟩
 rw [HR.out];rfl
section
variable {B gh gw n : Nat} {N : Int} {ws rest : List Int} {F : Nat -> Prop} {w : World}
theorem layfull (kind size : Int) (hs : N - (ws.length : Nat) <= size) (h : PO B gh gw n N ws rest F w) :
  Calls Tryz.prog 67 #[.pointer (some ⟨gh,0,none⟩),.int .i64 kind,.int .i64 size] w fun e w'=>e = .returned (.tuple #[.int .u64 0,.slice none 0 0,.int .i64 3]) /\ Below w.heap.size w w':=by
 have C:=hid (proom_any w h.shut)
 have e1 : decide (N - (ws.length : Nat) <= size) = true:=decide_eq_true hs
 clear h
 go_enter Tryz.func67,Tryz.ntmps67
 go_wp2_with (go_at_call 86;(with_reducible refine C.out.mono ?_);rintro e W1 ⟨rfl,b1⟩;have HB:=hid b1;clear b1)
 go_ret3
 exact ⟨rfl,HB.out⟩
def LayPost (gh gw n u size : Nat) (pt hd : Int) (ws rest : List Int) (F : Nat -> Prop) (w : World) (e : Ending) (w' : World) : Prop :=
 (∃ off cap,e = .returned (.tuple #[.int .u64 pt,.slice (some ⟨gw,off,none⟩) size cap,.int .i64 0]) /\ (0 < size -> off = u + 1) /\ size <= cap /\ cap <= 4194304) /\
  w'.heap[gh]? = some (.cells #[.slice (some ⟨gw,0,none⟩) n n,.int .i64 ((u + 1 + size : Nat) : Int)] 125 (0,0)) /\ w'.heap[gw]? = some (.cells (uz (ws ++ (hd :: rest.tail))).toArray 44 (0,0)) /\ Mod F w w'
set_option maxHeartbeats 4000000 in
theorem layhead (kind : Int) (size : Nat) (hk : 1 <= kind /\ kind <= 22) (hs : (size : Int) < N - (ws.length : Nat)) (h : PO B gh gw n N ws rest F w) :
  Calls Tryz.prog 67 #[.pointer (some ⟨gh,0,none⟩),.int .i64 kind,.int .i64 size] w fun e w'=>LayPost gh gw n ws.length size (wordR 2 (ws.length : Nat) 0) (wordR 8 size kind) ws rest F w e w':=by
 have HP:=hid h
 have C:=hid (proom_any w h.shut)
 have e1 : decide (N - (ws.length : Nat) <= (size : Int)) = false:=decide_eq_false (by omega)
 have hbd:=h.bd
 have hnn:=h.nn
 subst hnn
 have hul:=h.used_le
 have CH:=hid (fun wx=>head_any (size : Int) kind (by unfold Z64;omega) (by unfold Z64;omega) wx)
 have CP:=hid (fun wx=>ptr_any (ws.length : Nat) (by unfold Z64;omega) wx)
 obtain ⟨hd,hhd⟩ : ∃ x,x = wordR 8 size kind:=⟨_,rfl⟩
 obtain ⟨pt,hpt⟩ : ∃ x,x = wordR 2 (ws.length : Nat) 0:=⟨_,rfl⟩
 rw [<- hhd] at CH ⊢
 rw [<- hpt] at CP ⊢
 obtain ⟨b1,hb1⟩ : ∃ x,x = rightB 8 size kind:=⟨_,rfl⟩
 obtain ⟨b2,hb2⟩ : ∃ x,x = rightB 2 (ws.length : Nat) 0:=⟨_,rfl⟩
 rw [<- hb1] at CH
 rw [<- hb2] at CP
 have hne:=h.ne
 have HNE:=hid hne
 obtain ⟨u,hu⟩ : ∃ u,u = ws.length:=⟨_,rfl⟩
 have hrow : Hid (∀ wx : World,wx.heap[gw]? = some (.cells (uz (ws ++ rest)).toArray 44 (0,0)) -> (wx.setCell ⟨gw,u,none⟩ (.int .u64 hd)).heap[gw]? = some (.cells (uz (ws ++ (hd :: rest.tail))).toArray 44 (0,0))):=fun wx hwx=>by
  rw [blk_set (i:=u) hwx (.int .u64 hd)]
  have hl:=h.len
  rw [List.length_append] at hl
  cases rest with
  | nil=>simp at hl;omega
  | cons y r =>
   have : (uz (ws ++ y :: r)).toArray.setIfInBounds u (.int .u64 hd) = (uz (ws ++ (hd :: r))).toArray:=by
    rw [hu]
    simp [uz,List.map_append,List.set_append_right]
   rw [this];rfl
 have HU:=hid hu
 rw [<- hu] at C CP e1 hs hbd hul ⊢
 clear h hhd hpt hb1 hb2 hu hne
 go_enter Tryz.func67,Tryz.ntmps67
 go_wp2_with (first
  | (go_at_call 86;(with_reducible refine C.out.mono ?_);rintro e W1 ⟨rfl,b1⟩;have HB:=hid b1;have HP1:=hid (HP.out.on b1);have c0:=HP1.out.c0;have c1:=HP1.out.c1;rw [<- HU.out] at c1;clear b1)
  | (go_at_call 111;(with_reducible refine (CP.out _).mono ?_);rintro e W2 ⟨rfl,hw2⟩;rw [hw2];clear hw2))
 have HP2:=hid (HP1.out.on (Bd W1 1))
 have hun : u < n:=by omega
 have hun2 : (u : Int) < (n : Int):=by omega
 have hS0 : W1.drew.cell? ⟨gh,0,none⟩ = some (.slice (some ⟨gw,0,none⟩) n n) /\ W1.drew.cell? ⟨gh,1,none⟩ = some (.int .i64 (u : Nat)):=⟨c0,c1⟩
 refine wp_region_held_drew (S:=fun wx=>wx.cell? ⟨gh,0,none⟩ = some (.slice (some ⟨gw,0,none⟩) n n) /\ wx.cell? ⟨gh,1,none⟩ = some (.int .i64 (u : Nat))) (by kernel_rfl) hS0 (fun hHeld=>?_)
 refine htake 0 (some 25) (.pointer (some ⟨gh,0,none⟩)) rfl rfl (by kernel_rfl) (by kernel_rfl) (by kernel_rfl) (fun _ _ _ h=>h) (Or.inl ⟨by rfl,fun wx hSw=>?_⟩) (by assumption) ?_
 ·go_simp
 simp only [Act.put,List.setIfInBounds_toArray,List.set_cons_zero,List.set_cons_succ]
 refine htake 1 (some 26) (.pointer (some ⟨gh,0,none⟩)) rfl rfl (by kernel_rfl) (by kernel_rfl) (by kernel_rfl) (fun _ _ _ h=>h) (Or.inl ⟨by rfl,fun wx hSw=>?_⟩) (by assumption) ?_
 ·go_simp
 simp only [Act.put,List.setIfInBounds_toArray,List.set_cons_zero,List.set_cons_succ]
 refine htake 2 (some 27) (.pointer (some ⟨gh,0,none⟩)) rfl rfl (by kernel_rfl) (by kernel_rfl) (by kernel_rfl) (fun _ _ _ h=>h) (Or.inl ⟨by rfl,fun wx hSw=>?_⟩) (by assumption) ?_
 ·go_simp
 simp only [Act.put,List.setIfInBounds_toArray,List.set_cons_zero,List.set_cons_succ]
 refine htake 3 (some 28) (.slice (some ⟨gw,0,none⟩) n n) rfl rfl (by kernel_rfl) (by kernel_rfl) (by kernel_rfl) (fun _ _ _ h=>h) (Or.inl ⟨by rfl,fun wx hSw=>?_⟩) (by assumption) ?_
 ·obtain ⟨s1,s2⟩:=hSw;go_simp
 simp only [Act.put,List.setIfInBounds_toArray,List.set_cons_zero,List.set_cons_succ]
 refine htake 4 (some 29) (.pointer (some ⟨gh,0,none⟩)) rfl rfl (by kernel_rfl) (by kernel_rfl) (by kernel_rfl) (fun _ _ _ h=>h) (Or.inl ⟨by rfl,fun wx hSw=>?_⟩) (by assumption) ?_
 ·go_simp
 simp only [Act.put,List.setIfInBounds_toArray,List.set_cons_zero,List.set_cons_succ]
 refine htake 5 (some 30) (.pointer (some ⟨gh,0,none⟩)) rfl rfl (by kernel_rfl) (by kernel_rfl) (by kernel_rfl) (fun _ _ _ h=>h) (Or.inl ⟨by rfl,fun wx hSw=>?_⟩) (by assumption) ?_
 ·go_simp
 simp only [Act.put,List.setIfInBounds_toArray,List.set_cons_zero,List.set_cons_succ]
 refine htake 6 (some 31) (.pointer (some ⟨gh,1,none⟩)) rfl rfl (by kernel_rfl) (by kernel_rfl) (by kernel_rfl) (fun _ _ _ h=>h) (Or.inl ⟨by rfl,fun wx hSw=>?_⟩) (by assumption) ?_
 ·go_simp
 simp only [Act.put,List.setIfInBounds_toArray,List.set_cons_zero,List.set_cons_succ]
 refine htake 7 (some 32) (.int .i64 (u : Nat)) rfl rfl (by kernel_rfl) (by kernel_rfl) (by kernel_rfl) (fun _ _ _ h=>h) (Or.inl ⟨by rfl,fun wx hSw=>?_⟩) (by assumption) ?_
 ·obtain ⟨s1,s2⟩:=hSw;go_simp
 simp only [Act.put,List.setIfInBounds_toArray,List.set_cons_zero,List.set_cons_succ]
 refine htake 8 (some 33) (.int .i64 kind) rfl rfl (by kernel_rfl) (by kernel_rfl) (by kernel_rfl) (fun _ _ _ h=>h) (Or.inl ⟨by rfl,fun wx hSw=>?_⟩) (by assumption) ?_
 ·go_simp
 simp only [Act.put,List.setIfInBounds_toArray,List.set_cons_zero,List.set_cons_succ]
 refine htake 9 (some 34) (.int .i64 (size : Nat)) rfl rfl (by kernel_rfl) (by kernel_rfl) (by kernel_rfl) (fun _ _ _ h=>h) (Or.inl ⟨by rfl,fun wx hSw=>?_⟩) (by assumption) ?_
 ·go_simp
 simp only [Act.put,List.setIfInBounds_toArray,List.set_cons_zero,List.set_cons_succ]
 clear hHeld c0 c1
 refine hone 10 _ rfl (by kernel_rfl) (fun K hK=>?_)
 go_simp
 go_at_call 116
 refine (CH.out _).mono ?_
 rintro e W3 ⟨rfl,hw3⟩
 rw [hw3]
 clear hw3 W3
 refine hK.out _ _ hS0 (fun hHeld=>?_)
 clear hK K
 try simp only [Act.put,List.setIfInBounds_toArray,List.set_cons_zero,List.set_cons_succ]
 refine htake 11 (some 24) (.tuple #[.int .u64 hd,.bool b1]) rfl rfl (by kernel_rfl) (by kernel_rfl) (by kernel_rfl) (fun _ _ _ h=>h) (Or.inl ⟨by rfl,fun wx hSw=>?_⟩) (by assumption) ?_
 ·go_simp
 simp only [Act.put,List.setIfInBounds_toArray,List.set_cons_zero,List.set_cons_succ]
 refine htake 12 (some 36) (.int .u64 hd) rfl rfl (by kernel_rfl) (by kernel_rfl) (by kernel_rfl) (fun _ _ _ h=>h) (Or.inl ⟨by rfl,fun wx hSw=>?_⟩) (by assumption) ?_
 ·go_simp
 simp only [Act.put,List.setIfInBounds_toArray,List.set_cons_zero,List.set_cons_succ]
 refine htake 13 (some 37) (.bool b1) rfl rfl (by kernel_rfl) (by kernel_rfl) (by kernel_rfl) (fun _ _ _ h=>h) (Or.inl ⟨by rfl,fun wx hSw=>?_⟩) (by assumption) ?_
 ·go_simp
 simp only [Act.put,List.setIfInBounds_toArray,List.set_cons_zero,List.set_cons_succ]
 refine htake 14 (some 38) (.pointer (some ⟨gw,u,none⟩)) rfl rfl (by kernel_rfl) (by kernel_rfl) (by kernel_rfl) (fun _ _ _ h=>h) (Or.inl ⟨by rfl,fun wx hSw=>?_⟩) (by assumption) ?_
 ·go_simp
 simp only [Act.put,List.setIfInBounds_toArray,List.set_cons_zero,List.set_cons_succ]
 have cw:=HP1.out.word (i:=u) (by omega)
 have fw:=blk_free HP1.out.row u
 refine hone 15 _ rfl (by kernel_rfl) (fun K hK=>?_)
 go_simp
 refine hK.out _ _ ⟨?_,?_⟩ (fun _=>?_)
 ·exact (World.cell?_of_block (w:=W1) (a:=⟨gh,0,none⟩) (Below.heap_setCell W1 ⟨gw,u,none⟩ (.int .u64 hd) gh HNE.out)).trans hS0.1
 ·exact (World.cell?_of_block (w:=W1) (a:=⟨gh,1,none⟩) (Below.heap_setCell W1 ⟨gw,u,none⟩ (.int .u64 hd) gh HNE.out)).trans hS0.2
 clear hK K cw fw
 have hg3 : Hid ((W1.setCell ⟨gw,u,none⟩ (.int .u64 hd)).drew.heap[gh]? = some (.cells #[.slice (some ⟨gw,0,none⟩) n n,.int .i64 (u : Nat)] 125 (0,0))):=(Below.heap_setCell _ _ _ _ HNE.out).trans (by rw [HU.out];exact HP1.out.box)
 have hr3 : Hid ((W1.setCell ⟨gw,u,none⟩ (.int .u64 hd)).drew.heap[gw]? = _):=hrow.out _ HP1.out.row
 have hm3 : Hid (Mod F w ((W1.setCell ⟨gw,u,none⟩ (.int .u64 hd)).drew)):=((Mod.of_below F HB.out).setCell (p:=⟨gw,u,none⟩) (.inl ((HP.out.ff gw).2 (.inr rfl))) (.int .u64 hd)).trans (Mod.of_below F (Bd _ 1)) (fun b _ h=>h)
 refine wpAnyH_done (by kernel_rfl) ?_ _
 obtain ⟨W3,hW3⟩ : ∃ W,W = (W1.setCell ⟨gw,u,none⟩ (.int .u64 hd)).drew:=⟨_,rfl⟩
 rw [<- hW3] at hg3 hr3 hm3 ⊢
 clear hW3 hS0 hrow
 have c1 : W3.cell? ⟨gh,1,none⟩ = some (.int .i64 (u : Nat)):=blk_cell hg3.out 1
 have f1:=blk_free hg3.out 1
 have hb4 : Hid ((W3.setCell ⟨gh,1,none⟩ (.int .i64 (u + 1 + size))).heap[gh]? = some (.cells #[.slice (some ⟨gw,0,none⟩) n n,.int .i64 (u + 1 + size)] 125 (0,0))):=by
  unfold Hid
  rw [blk_set (i:=1) hg3.out];rfl
 have d0 : (W3.setCell ⟨gh,1,none⟩ (.int .i64 (u + 1 + size))).cell? ⟨gh,0,none⟩ = some (.slice (some ⟨gw,0,none⟩) n n):=blk_cell hb4.out 0
 have d1 : (W3.setCell ⟨gh,1,none⟩ (.int .i64 (u + 1 + size))).cell? ⟨gh,1,none⟩ = some (.int .i64 (u + 1 + size)):=blk_cell hb4.out 1
 go_wp2_with fail
 have ht : ((u : Int) + 1).toNat = u + 1:=by omega
 have ht2 : ((u : Int) + 1 + size).toNat = u + 1 + size:=by omega
 have hend : Hid (∀ q,(W3.setCell ⟨gh,1,none⟩ (.int .i64 (u + 1 + size))).heap[gh]? = some (.cells #[.slice (some ⟨gw,0,none⟩) n n,.int .i64 ((u + 1 + size : Nat) : Int)] 125 (0,0)) /\ (W3.setCell ⟨gh,1,none⟩ (.int .i64 (u + 1 + size))).heap[gw]? = some (.cells (uz (ws ++ (hd :: rest.tail))).toArray 44 (0,0)) /\ Mod F w ((W3.setCell ⟨gh,1,none⟩ (.int .i64 (u + 1 + size))).drewN q)):=fun q =>
  ⟨hb4.out,(Below.heap_setCell W3 ⟨gh,1,none⟩ (.int .i64 (u + 1 + size)) gw (fun e=>HNE.out e.symm)).trans hr3.out,(hm3.out.setCell (p:=⟨gh,1,none⟩) (.inl ((HP.out.ff gh).2 (.inl rfl))) (.int .i64 (u + 1 + size))).trans (Mod.of_below F (Bd _ _)) (fun b _ h=>h)⟩
 have hbig : Hid (size <= n - (u + 1) /\ n - (u + 1) <= 4194304):=by unfold Hid;omega
 by_cases hc : n <= u + 1
 ·have hz : Hid (size = 0) := by unfold Hid; omega
  go_quiet (fail)
  go_wp2
  go_ret3
  exact ⟨⟨0,_,rfl,fun h=>by have:=hz.out;omega,by have:=hz.out;omega,by omega⟩,hend.out _⟩
 ·go_quiet (fail)
  go_wp2
  go_ret3
  exact ⟨⟨u + 1,_,rfl,fun _=>rfl,hbig.out⟩,hend.out _⟩
end
theorem word_one : (Tryz.prog.info? 44).map (·.size) = some 1:=by
 have hi:=info_word
 cases h : Tryz.prog.info? 44 with
 | none=>rw [h] at hi;cases hi
 | some i=>rw [h] at hi;simp at hi;simp [hi.2.1]
theorem copy_words {w : World} {gw off cap : Nat} {A C fl : List Int} (hr : w.heap[gw]? = some (.cells (uz (A ++ C)).toArray 44 (0,0))) (hoff : 0 < fl.length -> off = A.length) (hC : fl.length <= C.length)
  {ao : Option Addr} {n c : Nat} (R : URow w ao n c fl) :
  ∃ w',(∀ ty,(Builtin.copy_ #[23,23] ty #[.slice (some ⟨gw,off,none⟩) n cap,.slice ao n c]).run Tryz.prog w = .ok (goInt n) w') /\ w'.heap[gw]? = some (.cells (uz (A ++ (fl ++ C.drop fl.length))).toArray 44 (0,0)) /\ Mod (fun b=>b = gw) w w':=by
 by_cases h0 : fl.length = 0
 ·have hn : n = 0 := by rw [<- R.len]; exact h0
  subst hn
  have hf : fl = []:=List.length_eq_zero_iff.1 h0
  subst hf
  exact ⟨w,fun ty=>run_copy_none w _ _ ty 44 _ _ 0 cap 0 c Tryz.underlying23 word_one rfl,by simpa using hr,Mod.refl _ _⟩
 ·have ho := hoff (by omega)
  subst ho
  obtain ⟨b,o,rfl,hlb,hcc⟩:=R.some (by have:=R.len;omega)
  have hlen : (uz fl).length = n:=by rw [uz_length,R.len]
  have hsz : (uz (A ++ C)).toArray.size = A.length + C.length:=by simp [uz]
  have hrun:=fun ty=>run_copy_row (P:=Tryz.prog) w 23 23 ty 44 gw A.length n cap ⟨b,o,none⟩ n c (uz (A ++ C)).toArray 44 (uz fl) Tryz.underlying23 word_one hr (by rw [hlen];exact (Nat.min_self n).symm)
   (fun j v hj=>by
    have hjl : j < fl.length:=by
     have:=(List.getElem?_eq_some_iff.1 hj).1
     rwa [uz_length] at this
    rw [uz_get hjl] at hj
    cases hj
    have:=hcc j (by have:=R.len;omega)
    unfold Addr.add
    by_cases hj0 : j = 0
    ·subst hj0;simpa using this
    ·rw [if_neg hj0];exact this)
   (by rw [hsz,uz_length];omega)
   (fun v hv=>by unfold uz at hv;obtain ⟨z,_,rfl⟩:=List.mem_map.1 hv;rfl)
  refine ⟨_,fun ty=>by have:=hrun ty;rw [hlen] at this;exact this,?_,?_⟩
  ·rw [setRow_heap w gw _ _ _ _ hr]
   have e1 : (uz (A ++ C)).toArray.toList.take A.length ++ uz fl ++ (uz (A ++ C)).toArray.toList.drop (A.length + n) = uz (A ++ (fl ++ C.drop fl.length)):=by
    have h1 : (uz (A ++ C)).toArray.toList = uz A ++ uz C:=by rw [<- uz_append]
    have h2 : (uz A).length = A.length:=uz_length A
    rw [h1,<- h2,List.take_left,List.drop_append,uz_append,uz_append,R.len]
    have h3 : (uz A).drop ((uz A).length + n) = []:=List.drop_eq_nil_of_le (by omega)
    have h4 : (uz A).length + n - (uz A).length = n:=by omega
    have h5 : (uz C).drop n = uz (C.drop n):=by unfold uz;rw [List.map_drop]
    rw [h3,h4,List.nil_append,h5,List.append_assoc]
   rw [e1]
  ·refine ⟨rfl, rfl, rfl, ?_, fun j _ hj => setRow_other w gw j _ hj⟩
   simp [World.setRow]
section
variable {B gh gw n : Nat} {N : Int} {ws rest : List Int} {F : Nat -> Prop} {w : World}
theorem lay_shut {w' : World} (h : PO B gh gw n N ws rest F w) {hd : Int} {fl : List Int} (hs : (fl.length : Int) < N - (ws.length : Nat)) (hhd : U64 hd) (hfl : ∀ z∈fl,U64 z)
  (hb : w'.heap[gh]? = some (.cells #[.slice (some ⟨gw,0,none⟩) n n,.int .i64 ((ws.length + 1 + fl.length : Nat) : Int)] 125 (0,0)))
  (hr : w'.heap[gw]? = some (.cells (uz (ws ++ (hd :: (fl ++ rest.tail.drop fl.length)))).toArray 44 (0,0))) :
  PO B gh gw n N (ws ++ hd :: fl) (rest.tail.drop fl.length) F w':=by
 have hl:=h.len
 have hnn:=h.nn
 rw [List.length_append] at hl
 have hrt : rest.tail.length = rest.length - 1:=List.length_tail
 have e0 : (ws ++ hd :: fl).length = ws.length + 1 + fl.length:=by rw [List.length_append,List.length_cons];omega
 refine { h with box:=?_,row:=?_,len:=?_,bd:=?_,u:=?_ }
 ·rw [e0];exact hb
 ·rw [hr];simp
 ·rw [List.length_append,e0,List.length_drop];omega
 ·rw [e0];have:=h.bd;omega
 ·intro z hz
  rcases List.mem_append.1 hz with hz | hz
  ·exact h.u z hz
  ·rcases List.mem_cons.1 hz with rfl | hz
   ·exact hhd
   ·exact hfl z hz
end
section
variable {B : Nat} {v : Value} {N : Int} {F : Nat -> Prop} {os : List Ob}
theorem alloc_words (kind : Int) (fl : List Int) (h : (allocM os N kind fl).2 = 0) : wordsL (allocO os N kind fl) = wordsL os ++ wordR 8 (fl.length : Nat) kind :: fl:=by
 unfold allocO;rw [if_pos h,wordsL_append];simp [wordsL]
set_option maxHeartbeats 8000000 in
theorem palloc_any (ho : OsOk os) (kind : Int) (hk : Z64 kind) (ao : Option Addr) (n cap : Nat) (fl : List Int) (w : World) (h : PH B v N (wordsL os) F w) (R : URow w ao n cap fl) (hB : B <= w.heap.size) (ha : ∀ a,ao = some a -> ¬ F a.block) (hsm : n <= 1000000) :
  Calls Tryz.prog 47 #[v,.int .i64 kind,.slice ao n cap] w fun e w'=>e = .returned (.tuple #[.int .u64 (allocM os N kind fl).1,.int .i64 (allocM os N kind fl).2]) /\ PPost B v N F w (wordsL (allocO os N kind fl)) w':=by
 have C1:=hid (istype_any kind hk w)
 have C2:=hid (contains_any ao n cap fl w R)
 have hlen:=R.len
 have same : Hid (∀ W,Below w.heap.size w W -> PPost B v N F w (wordsL os) W):=fun W hb=>⟨F,h.keep (fun b hf=>hb.block b (h.ge b hf).2),fun b hb=>.inl hb,Mod.of_below F hb⟩
 have hfits:=R.fits
 have hmost:=R.most
 unfold maxLen at hmost
 have HR:=hid R
 have HA:=hid ha
 have HB:=hid hB
 by_cases h1 : kind < 1 \/ 22 < kind
 ·have e1 : allocM os N kind fl = (0, 70) := by unfold allocM; rw [if_pos h1]
  have e2 : allocO os N kind fl = os:=by unfold allocO;rw [e1];rfl
  rw [e1,e2]
  rw [decide_eq_true h1] at C1
  obtain ⟨gh,rfl⟩:=h.ptr
  simp only
  clear h R ha hB h1 e1 e2 hk
  go_enter Tryz.func47,Tryz.ntmps47
  go_wp2_with (go_at_call 65;(with_reducible refine C1.out.mono ?_);rintro e W1 ⟨rfl,hw1⟩;rw [hw1];clear hw1)
  go_ret2
  exact ⟨rfl,same.out _ (Below.refl _ _)⟩
 rw [decide_eq_false h1] at C1
 by_cases h2 : fl.any isHd = true
 ·have e1 : allocM os N kind fl = (0, 1) := by unfold allocM; rw [if_neg h1, if_pos h2]
  have e2 : allocO os N kind fl = os:=by unfold allocO;rw [e1];rfl
  rw [e1,e2]
  rw [h2] at C2
  obtain ⟨gh,rfl⟩:=h.ptr
  simp only
  clear h R ha hB h1 h2 e1 e2 hk
  go_enter Tryz.func47,Tryz.ntmps47
  go_wp2_with (first
   | (go_at_call 65;(with_reducible refine C1.out.mono ?_);rintro e W1 ⟨rfl,hw1⟩;rw [hw1];clear hw1)
   | (go_at_call 88;(with_reducible refine C2.out.mono ?_);rintro e W1 ⟨rfl,hw1⟩;rw [hw1];clear hw1))
  go_ret2
  exact ⟨rfl,same.out _ (Below.refl _ _)⟩
 have h2' : fl.any isHd = false:=by simpa using h2
 rw [h2'] at C2
 obtain ⟨gh,gw,nn,rest,rfl,hp⟩:=h.opened
 have HP:=hid hp
 by_cases h3 : N - (usedL os : Nat) < 1 + (fl.length : Nat)
 ·have e1 : allocM os N kind fl = (0, 3) := by unfold allocM; rw [if_neg h1, if_neg h2, if_pos h3]
  have e2 : allocO os N kind fl = os:=by unfold allocO;rw [e1];rfl
  rw [e1,e2]
  have C3:=hid (layfull kind n (by rw [wordsL_length];omega) hp)
  have hcp:=fun wx ty=>run_copy_none (P:=Tryz.prog) wx 23 23 ty 44 none ao 0 0 n cap Tryz.underlying23 word_one (Nat.min_eq_right (Nat.zero_le _))
  simp only
  clear h hp R ha hB h1 h2 h2' h3 e1 e2 hk
  go_enter Tryz.func47,Tryz.ntmps47
  go_wp2_with (first
   | (go_at_call 65;(with_reducible refine C1.out.mono ?_);rintro e W1 ⟨rfl,hw1⟩;rw [hw1];clear hw1)
   | (go_at_call 88;(with_reducible refine C2.out.mono ?_);rintro e W1 ⟨rfl,hw1⟩;rw [hw1];clear hw1)
   | (go_at_call 67;(with_reducible refine C3.out.mono ?_);rintro e W1 ⟨rfl,b1⟩;have HB1:=hid b1;clear b1))
  go_ret2
  exact ⟨rfl,same.out _ HB1.out⟩
 ·have e1 : allocM os N kind fl = (wordR 2 (usedL os : Nat) 0, 0) := by unfold allocM; rw [if_neg h1, if_neg h2, if_neg h3]
  have e2:=alloc_words (os:=os) (N:=N) kind fl (by rw [e1])
  rw [e1,e2]
  have hs : (n : Int) < N - ((wordsL os).length : Nat):=by rw [wordsL_length];omega
  have C3:=hid (layhead kind n (by omega) hs hp)
  have HS:=hid hs
  rw [wordsL_length] at C3
  obtain ⟨pt,hpt⟩ : ∃ x,x = wordR 2 (usedL os : Nat) 0:=⟨_,rfl⟩
  rw [<- hpt] at C3 ⊢
  rw [hlen]
  obtain ⟨hd,hhd⟩ : ∃ x,x = wordR 8 (n : Nat) kind:=⟨_,rfl⟩
  have hhu : Hid (U64 hd):=by unfold Hid;rw [hhd];exact wordR_rng _ _ _
  rw [<- hhd] at C3 ⊢
  have HL:=hid hlen
  have hfd : Hid (∀ W1 W2 : World,W1.heap[gh]? = some (.cells #[.slice (some ⟨gw,0,none⟩) nn nn,.int .i64 ((usedL os + 1 + n : Nat) : Int)] 125 (0,0)) -> Mod F w W1 -> W2.heap[gw]? = some (.cells (uz ((wordsL os ++ [hd]) ++ (fl ++ rest.tail.drop fl.length))).toArray 44 (0,0)) -> Mod (fun b=>b = gw) W1 W2 -> PPost B (.pointer (some ⟨gh,0,none⟩)) N F w (wordsL os ++ hd :: fl) W2):=fun W1 W2 g1 g2 g3 g4=>by
   have hgh:=(Array.getElem?_eq_some_iff.1 g1).1
   have q:=lay_shut (w':=W2) HP.out (hd:=hd) (fl:=fl) (by rw [HL.out];exact HS.out) hhu.out HR.out.bd ((g4.block gh hgh HP.out.ne).trans (by rw [g1,wordsL_length,HL.out])) (by rw [g3];simp)
   exact ⟨F,q.shut,fun b hb=>.inl hb,g2.trans g4 (fun b _ e=>by rw [e];exact (HP.out.ff gw).2 (.inr rfl))⟩
  have hC : Hid (fl.length <= rest.tail.length):=by
   unfold Hid
   have:=hp.len
   have:=hp.nn
   rw [List.length_append,wordsL_length] at *
   rw [List.length_tail];omega
  have hcpy : Hid (∀ W1 : World,W1.heap[gw]? = some (.cells (uz (wordsL os ++ (hd :: rest.tail))).toArray 44 (0,0)) -> Mod F w W1 -> ∀ off c1,(0 < n -> off = usedL os + 1) -> ∃ w',(∀ ty,(Builtin.copy_ #[23,23] ty #[.slice (some ⟨gw,off,none⟩) n c1,.slice ao n cap]).run Tryz.prog W1 = .ok (goInt n) w') /\ w'.heap[gw]? = some (.cells (uz ((wordsL os ++ [hd]) ++ (fl ++ rest.tail.drop fl.length))).toArray 44 (0,0)) /\ Mod (fun b=>b = gw) W1 w'):=fun W1 g1 g2 off c1 ho=>by
   refine copy_words (A:=wordsL os ++ [hd]) (C:=rest.tail) (by rw [g1];simp) (fun h0=>?_) hC.out (HR.out.keep g2.size (fun hne a ha'=>?_))
   ·rw [ho (by rw [<- HL.out];exact h0)];simp [wordsL_length]
   ·rcases HR.out.rd with e | ⟨b, o, e, hlb, _⟩
    ·exact absurd e hne
    ·rw [e] at ha'; cases ha'
     exact g2.block b hlb (HA.out _ e)
  simp only
  clear h hp R ha hB h1 h2 h2' h3 e1 e2 hk hpt hhd hlen hs
  unfold LayPost at C3
  go_enter Tryz.func47,Tryz.ntmps47
  go_wp2_with (first
   | (go_at_call 65;(with_reducible refine C1.out.mono ?_);rintro e W1 ⟨rfl,hw1⟩;rw [hw1];clear hw1)
   | (go_at_call 88;(with_reducible refine C2.out.mono ?_);rintro e W1 ⟨rfl,hw1⟩;rw [hw1];clear hw1)
   | (go_at_call 67;(with_reducible refine C3.out.mono ?_);rintro e W1 ⟨⟨off,c1,rfl,ho1,ho2,ho3⟩,g1,g2,g3⟩;obtain ⟨W2,hrun,k1,k2⟩:=hcpy.out W1 g2 g3 off c1 ho1;have HE:=hid (hfd.out W1 W2 g1 g3 k1 k2);clear g1 g2 g3 k1 k2 ho1))
  go_ret2
  exact ⟨rfl,HE.out⟩
end
end Go.Proofs.YticimejfjjmikaaGreatDoor
