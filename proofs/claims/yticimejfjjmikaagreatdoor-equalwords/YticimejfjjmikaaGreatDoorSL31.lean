import Derived.Test.YticimejfjjmikaaGreatDoorSD2
import Derived.Test.YticimejfjjmikaaGreatDoorSL3
import Derived.Test.YticimejfjjmikaaGreatDoorQ3
import Derived.Test.YticimejfjjmikaaGreatDoorSL24
import Derived.Maps.OwnSet
set_option linter.unusedVariables false
set_option linter.unusedSimpArgs false
set_option maxRecDepth 100000
namespace Go.Proofs.YticimejfjjmikaaGreatDoor
open Go.RowKit
theorem layB_need (ns : List Nd) (rs : List Int) : needM ns rs = if layB ns rs = true then sumN (canonN ns rs).1 else -1:=by
 unfold needM layB
 by_cases h : goodG ns rs = true /\ (canonN ns rs).1.all (fun d=>decide (0 <= sizeN d)) = true
 ·rw [if_pos h,if_pos (by rw [h.1,h.2];rfl)]
 ·rw [if_neg h,if_neg (fun e=>h (by rw [Bool.and_eq_true] at e;exact e))]
theorem layB_nodes {ns : List Nd} {rs : List Int} (h : layB ns rs = true) (hs : smallG ns) (hk : ∀ d∈ns,d.kids.length <= 100) (hn : ns.length <= 100) :
  (∀ d∈(canonN ns rs).1,LNd d /\ nodeB (canonN ns rs).1.length d = true) /\ (canonN ns rs).1.length <= 100 /\ (canonN ns rs).2.length = rs.length /\ goodG (canonN ns rs).1 (canonN ns rs).2 = true /\ (canonN ns rs).1.all (fun d=>decide (0 <= sizeN d)) = true:=by
 unfold layB at h
 rw [Bool.and_eq_true] at h
 obtain ⟨c1,c2,c3,c4⟩:=canon_nodes h.1 hs hk hn
 have hnd:=goodG_nodes c4
 refine ⟨fun d hd=>⟨LNd.of (hnd d hd) (c1 d hd) (of_decide_eq_true (List.all_eq_true.1 h.2 d hd)),hnd d hd⟩,c2,c3,c4,h.2⟩
def nullF (d : Nd) : List Int:=if d.kind = 7 \/ d.kind = 8 then List.replicate d.kids.length 2 else fieldsL d []
def nullsOf (cs : List Nd) : List Ob:=(cs.filter (fun d=>decide (0 < sizeN d))).map (fun d=>⟨fieldsK d,nullF d⟩)
theorem fieldsL_other {d : Nd} (hk : ¬ (d.kind = 7 \/ d.kind = 8)) (hz : 0 < sizeN d) (ws ws' : List Int) : fieldsL d ws = fieldsL d ws':=by
 unfold sizeN at hz
 unfold fieldsL
 by_cases h1 : d.kind = 1 \/ d.kind = 2 \/ d.kind = 4 \/ d.kind = 6 \/ d.kind = 10 \/ d.kind = 11
 ·rw [if_pos h1] at hz;omega
 rw [if_neg h1] at hz
 by_cases h3 : d.kind = 3
 ·rw [if_pos h3,if_pos h3]
 rw [if_neg h3] at hz ⊢
 rw [if_neg h3]
 by_cases h5 : d.kind = 5
 ·rw [if_pos h5,if_pos h5]
 rw [if_neg h5] at hz ⊢
 rw [if_neg h5]
 rw [if_neg hk] at hz
 by_cases h9 : d.kind = 9
 ·rw [if_pos h9,if_pos h9]
 rw [if_neg h9] at hz
 omega
theorem fieldsL_kids {d : Nd} (hk : d.kind = 7 \/ d.kind = 8) (ws : List Int) : fieldsL d ws = d.kids.map (fun k=>ws.getD k.toNat 0):=by
 unfold fieldsL
 rw [if_neg (by omega),if_neg (by omega),if_neg (by omega)]
theorem nullF_len {d : Nd} (hz : 0 < sizeN d) (ws : List Int) : (nullF d).length = (fieldsL d ws).length:=by
 unfold nullF
 by_cases hk : d.kind = 7 \/ d.kind = 8
 ·rw [if_pos hk,List.length_replicate,fieldsL_kids hk,List.length_map]
 ·rw [if_neg hk,fieldsL_other hk hz]
theorem null_nohd : isHd 2 = false:=by decide
theorem nullF_nohd (d : Nd) : ∀ z∈nullF d,isHd z = false:=by
 intro z hz
 unfold nullF at hz
 split at hz
 ·obtain ⟨_,rfl⟩:=List.mem_replicate.1 hz;exact null_nohd
 ·exact fields_nohd d (fun z h=>by cases h) z hz
theorem nullsOf_app (a b : List Nd) : nullsOf (a ++ b) = nullsOf a ++ nullsOf b:=by unfold nullsOf;rw [List.filter_append,List.map_append]
theorem objsOf_app (ws : List Int) (a b : List Nd) : objsOf ws (a ++ b) = objsOf ws a ++ objsOf ws b:=by unfold objsOf;rw [List.filter_append,List.map_append]
theorem nullsOf_one (d : Nd) : nullsOf [d] = if 0 < sizeN d then [⟨fieldsK d,nullF d⟩] else []:=by
 unfold nullsOf
 by_cases hz : 0 < sizeN d
 ·rw [if_pos hz,List.filter_cons_of_pos (by exact decide_eq_true hz)];rfl
 ·rw [if_neg hz,List.filter_cons_of_neg (by rw [decide_eq_false hz];decide)];rfl
theorem objsOf_one (ws : List Int) (d : Nd) : objsOf ws [d] = if 0 < sizeN d then [⟨fieldsK d,fieldsL d ws⟩] else []:=by
 unfold objsOf
 by_cases hz : 0 < sizeN d
 ·rw [if_pos hz,List.filter_cons_of_pos (by exact decide_eq_true hz)];rfl
 ·rw [if_neg hz,List.filter_cons_of_neg (by rw [decide_eq_false hz];decide)];rfl
theorem take_one {cs : List Nd} {q : Nat} (h : q < cs.length) : cs.take (q + 1) = cs.take q ++ [cs.getD q default]:=by
 rw [List.take_succ_eq_append_getElem h,List.getD_eq_getElem?_getD,List.getElem?_eq_getElem h];rfl
theorem drop_one {cs : List Nd} {q : Nat} (h : q < cs.length) : cs.drop q = [cs.getD q default] ++ cs.drop (q + 1):=by
 rw [List.drop_eq_getElem_cons h,List.getD_eq_getElem?_getD,List.getElem?_eq_getElem h];rfl
theorem sh_nulls (ws : List Int) : ∀ cs : List Nd,(nullsOf cs).map sh = (objsOf ws cs).map sh
 | []=>rfl
 | d :: cs => by
  have h1:=nullsOf_app [d] cs
  have h2:=objsOf_app ws [d] cs
  rw [List.singleton_append] at h1 h2
  rw [h1,h2,List.map_append,List.map_append,sh_nulls ws cs,nullsOf_one,objsOf_one]
  by_cases hz : 0 < sizeN d
  ·rw [if_pos hz, if_pos hz]
   show [(fieldsK d,(nullF d).length)] ++ _ = [(fieldsK d,(fieldsL d ws).length)] ++ _
   rw [nullF_len hz ws]
  ·rw [if_neg hz,if_neg hz]
def mixO (ws : List Int) (os : List Ob) (cs : List Nd) (q : Nat) : List Ob:=(os ++ objsOf ws (cs.take q)) ++ nullsOf (cs.drop q)
theorem mix_zero (ws : List Int) (os : List Ob) (cs : List Nd) : mixO ws os cs 0 = os ++ nullsOf cs:=by
 unfold mixO;simp [objsOf]
theorem mix_all (ws : List Int) (os : List Ob) (cs : List Nd) : mixO ws os cs cs.length = os ++ objsOf ws cs:=by
 unfold mixO;simp [nullsOf]
theorem mix_sh (ws : List Int) (os : List Ob) (cs : List Nd) (q : Nat) : (mixO ws os cs q).map sh = (os ++ objsOf ws cs).map sh:=by
 unfold mixO
 conv=>rhs;rw [<- List.take_append_drop q cs,objsOf_app,<- List.append_assoc]
 rw [List.map_append,List.map_append (l₂:=objsOf ws (cs.drop q)),sh_nulls ws]
theorem mix_bare {ws : List Int} {os : List Ob} {cs : List Nd} {q : Nat} (h : q < cs.length) (hk : (cs.getD q default).kids = []) : mixO ws os cs (q + 1) = mixO ws os cs q:=by
 unfold mixO
 rw [take_one h,drop_one h,objsOf_app,nullsOf_app,<- List.append_assoc,<- List.append_assoc]
 congr 2
 rw [objsOf_one,nullsOf_one]
 by_cases hz : 0 < sizeN (cs.getD q default)
 ·rw [if_pos hz, if_pos hz]
  congr 2
  unfold nullF
  by_cases h7 : (cs.getD q default).kind = 7 \/ (cs.getD q default).kind = 8
  ·rw [if_pos h7,fieldsL_kids h7,hk];rfl
  ·rw [if_neg h7];exact fieldsL_other h7 hz _ _
 ·rw [if_neg hz,if_neg hz]
def rowJ (d : Nd) (ws : List Int) (j : Nat) : List Int:=(d.kids.take j).map (fun k=>ws.getD k.toNat 0) ++ List.replicate (d.kids.length - j) 2
theorem rowJ_len {d : Nd} {ws : List Int} {j : Nat} (h : j <= d.kids.length) : (rowJ d ws j).length = d.kids.length:=by
 unfold rowJ;rw [List.length_append,List.length_map,List.length_take,List.length_replicate];omega
theorem rowJ_set {d : Nd} {ws : List Int} {j : Nat} (h : j < d.kids.length) : (rowJ d ws j).set j (ws.getD (d.kids.getD j 0).toNat 0) = rowJ d ws (j + 1):=by
 have hl : ((d.kids.take j).map (fun k=>ws.getD k.toNat 0)).length = j:=by rw [List.length_map,List.length_take];omega
 unfold rowJ
 rw [List.set_append_right _ _ (by omega),hl,Nat.sub_self]
 have e1 : d.kids.length - j = (d.kids.length - (j + 1)) + 1:=by omega
 rw [e1,List.replicate_succ,List.set_cons_zero,List.take_succ_eq_append_getElem h,List.map_append,List.append_assoc]
 have e2 : d.kids.getD j 0 = d.kids[j]:=by rw [List.getD_eq_getElem?_getD,List.getElem?_eq_getElem h];rfl
 rw [e2]
 rfl
def midO (ws : List Int) (os : List Ob) (cs : List Nd) (q j : Nat) : List Ob:=(os ++ objsOf ws (cs.take q)) ++ (⟨fieldsK (cs.getD q default),rowJ (cs.getD q default) ws j⟩ :: nullsOf (cs.drop (q + 1)))
theorem size_kids {d : Nd} (hk : d.kind = 7 \/ d.kind = 8) : 0 < sizeN d:=by
 unfold sizeN
 rw [if_neg (by omega),if_neg (by omega),if_neg (by omega),if_pos hk]
 omega
theorem mid_zero {ws : List Int} {os : List Ob} {cs : List Nd} {q : Nat} (h : q < cs.length) (hk : (cs.getD q default).kind = 7 \/ (cs.getD q default).kind = 8) : midO ws os cs q 0 = mixO ws os cs q:=by
 unfold midO mixO
 rw [drop_one h,nullsOf_app,nullsOf_one,if_pos (size_kids hk)]
 congr 2
 unfold nullF
 rw [if_pos hk];rfl
theorem mid_all {ws : List Int} {os : List Ob} {cs : List Nd} {q : Nat} (h : q < cs.length) (hk : (cs.getD q default).kind = 7 \/ (cs.getD q default).kind = 8) : midO ws os cs q (cs.getD q default).kids.length = mixO ws os cs (q + 1):=by
 unfold midO mixO
 rw [take_one h,objsOf_app,objsOf_one,if_pos (size_kids hk),<- List.append_assoc,List.append_assoc (os ++ objsOf ws (cs.take q))]
 congr 2
 unfold rowJ
 rw [List.take_length,Nat.sub_self,fieldsL_kids hk];simp
section
variable {N : Int} {os : List Ob} {nm : List ByteArray} {cs : List Nd}
theorem mid_sh {ws : List Int} {q j : Nat} (h : q < cs.length) (hk : (cs.getD q default).kind = 7 \/ (cs.getD q default).kind = 8) (hj : j <= (cs.getD q default).kids.length) : (midO ws os cs q j).map sh = (os ++ objsOf ws cs).map sh:=by
 rw [<- mix_sh ws os cs q,<- mid_zero h hk]
 unfold midO
 rw [List.map_append (l₁:=os ++ objsOf ws (cs.take q)),List.map_append (l₁:=os ++ objsOf ws (cs.take q)),List.map_cons,List.map_cons]
 have e : sh ⟨fieldsK (cs.getD q default),rowJ (cs.getD q default) ws j⟩ = sh ⟨fieldsK (cs.getD q default),rowJ (cs.getD q default) ws 0⟩:=by
  show (fieldsK (cs.getD q default),(rowJ (cs.getD q default) ws j).length) = (fieldsK (cs.getD q default),(rowJ (cs.getD q default) ws 0).length)
  rw [rowJ_len hj,rowJ_len (Nat.zero_le _)]
 rw [e]
theorem mid_set (h : PutOk N os nm cs) {q j : Nat} (hq : q < cs.length) (hk : (cs.getD q default).kind = 7 \/ (cs.getD q default).kind = 8) (hj : j < (cs.getD q default).kids.length) :
  setM (midO (putS nm (usedL os) cs).ws os cs q j) ((putS nm (usedL os) cs).ws.getD q 0) 0 (j : Nat) ((putS nm (usedL os) cs).ws.getD ((cs.getD q default).kids.getD j 0).toNat 0) = (midO (putS nm (usedL os) cs).ws os cs q (j + 1),0):=by
 obtain ⟨k,hf,_,_,_,hkk⟩:=h.place hq (size_kids hk)
 have hnh:=getD_nohd (putS_nohd (nm:=nm) (a:=usedL os) (cs:=cs) cs.length (Nat.le_refl _)) ((cs.getD q default).kids.getD j 0).toNat
 rw [List.take_length] at hnh
 generalize hws : (putS nm (usedL os) cs).ws = ws at *
 have hf2 : findM (midO ws os cs q j) (ws.getD q 0) = some k:=by rw [sh_find (mid_sh hq hk (by omega))];exact hf
 have hg : (midO ws os cs q j).getD k default = ⟨fieldsK (cs.getD q default),rowJ (cs.getD q default) ws j⟩:=by
  unfold midO
  rw [hkk,List.getD_eq_getElem?_getD,List.getElem?_append_right (Nat.le_refl _),Nat.sub_self];rfl
 have hfm : fieldM (midO ws os cs q j) (ws.getD q 0) 0 (j : Nat) = ((k : Int),0):=by
  unfold fieldM
  rw [hf2]
  simp only [hg]
  rw [if_neg (by simp),if_neg (by rw [rowJ_len (by omega)];omega)]
 unfold setM
 rw [hfm,if_neg (by simp),if_neg (by unfold isHd at hnh;exact of_decide_eq_false hnh)]
 simp only [Int.toNat_natCast,hg]
 refine congrArg (fun l=>(l,(0 : Int))) ?_
 unfold midO setF
 simp only
 rw [hkk,List.set_append_right _ _ (Nat.le_refl _),Nat.sub_self,List.set_cons_zero,rowJ_set hj]
theorem nulls_used {ws : List Int} (cs : List Nd) : usedL (nullsOf cs) = usedL (objsOf ws cs):=sh_used (sh_nulls ws cs)
theorem null_alloc (h : PutOk N os nm cs) {q : Nat} (hq : q < cs.length) (hz : 0 < sizeN (cs.getD q default)) :
  allocM (os ++ nullsOf (cs.take q)) N (fieldsK (cs.getD q default)) (nullF (cs.getD q default)) = (wordR 2 ((putS nm (usedL os) (cs.take q)).at_ : Nat) 0,0) /\ allocO (os ++ nullsOf (cs.take q)) N (fieldsK (cs.getD q default)) (nullF (cs.getD q default)) = os ++ nullsOf (cs.take (q + 1)):=by
 have hu:=objsOf_used (ws:=[]) h.sz q (by omega)
 have hsum:=sumN_le h.sz (q + 1)
 rw [sumN_take hq] at hsum
 have hk:=fieldsK_rng (cs.getD q default)
 have hl:=fieldsL_len (ws:=[]) hz
 have hat:=putS_at (nm:=nm) (a:=usedL os) h.sz q (by omega)
 have hr:=h.room
 have hn:=nullF_len hz []
 have huu : usedL (os ++ nullsOf (cs.take q)) = (putS nm (usedL os) (cs.take q)).at_:=by
  rw [usedL_append,nulls_used (ws:=[])];omega
 have hany : (nullF (cs.getD q default)).any isHd = false:=by
  rw [List.any_eq_false]
  intro z hz'
  rw [nullF_nohd _ z hz'];decide
 have hal : allocM (os ++ nullsOf (cs.take q)) N (fieldsK (cs.getD q default)) (nullF (cs.getD q default)) = (wordR 2 ((putS nm (usedL os) (cs.take q)).at_ : Nat) 0,0):=by
  unfold allocM
  rw [if_neg (by omega),hany,if_neg (by decide),if_neg (by rw [huu];omega),huu]
 refine ⟨hal,?_⟩
 unfold allocO
 rw [hal,if_pos rfl,take_one hq,nullsOf_app,nullsOf_one,if_pos hz,List.append_assoc]
theorem null_skip {q : Nat} (hq : q < cs.length) (hz : ¬ 0 < sizeN (cs.getD q default)) : nullsOf (cs.take (q + 1)) = nullsOf (cs.take q):=by
 rw [take_one hq,nullsOf_app,nullsOf_one,if_neg hz,List.append_nil]
end
theorem set_ok {os : List Ob} {p kind i z : Int} (h : OsOk os) (hz : U64 z) : OsOk (setM os p kind i z).1:=by
 unfold setM
 split
 ·exact h
 ·split
  ·exact h
  ·rename_i h0 h8
   obtain ⟨n,e1,e2,_⟩:=fieldM_ok (by simpa using h0)
   rw [e1]
   simp only [Int.toNat_natCast]
   have hm : os.getD n default∈os:=by rw [List.getD_eq_getElem?_getD,List.getElem?_eq_getElem e2];exact List.getElem_mem e2
   refine ⟨fun x hx=>?_,fun x hx=>?_,fun x hx=>?_⟩ <;> rcases List.mem_or_eq_of_mem_set hx with hx | rfl
   ·exact h.kd x hx
   ·have:=h.kd _ hm;exact this
   ·exact h.uf x hx
   ·intro y hy
    simp only [setF] at hy
    rcases List.mem_or_eq_of_mem_set hy with hy | rfl
    ·exact h.uf _ hm y hy
    ·exact hz
   ·exact h.nh x hx
   ·intro y hy
    simp only [setF] at hy
    rcases List.mem_or_eq_of_mem_set hy with hy | rfl
    ·exact h.nh _ hm y hy
    ·exact decide_eq_false h8
section
variable {B : Nat} {v vn : Value} {N : Int} {os : List Ob} {nm : List ByteArray} {F : Nat -> Prop} {w w1 w' : World}
theorem PNPost.front {os' : List Ob} {nm' : List ByteArray} (hb : Below w.heap.size w w1) (h : PNPost B v vn N F w1 os' nm' w') : PNPost B v vn N F w os' nm' w':=by
 obtain ⟨F',h1,h2,h3⟩:=h
 have hs:=hb.size
 exact ⟨F',h1,fun b e=>(h2 b e).imp id (fun e=>by omega),(Mod.of_below F hb).trans h3 (fun _ _ e=>e)⟩
theorem pn_fill (h : PN B v vn N os nm F w) (kind n z : Int) (hk : Z64 kind) (hn : Z64 n) (hz : U64 z) (hB : B <= w.heap.size) (ho : OsOk (fillQ os N kind n z)) :
  Calls Tryz.prog 34 #[v,.int .i64 kind,.int .i64 n,.int .u64 z] w fun e w'=>e = .returned (.tuple #[.int .u64 (fillP os N kind n z).1,.int .i64 (fillP os N kind n z).2]) /\ PNPost B v vn N F w (fillQ os N kind n z) nm w':=by
 obtain ⟨F1,F2,h1,h2,h3,h4⟩:=h.ok
 refine (pfill_any h.fine kind n z hk hn hz w h1 hB).mono ?_
 rintro e w' ⟨rfl,hp⟩
 exact ⟨rfl,PN.heap h1 h2 h3 h4 hp ho⟩
theorem pn_set (h : PN B v vn N os nm F w) (p kind i z : Int) (hp : U64 p) (hk : Z64 kind) (hi : Z64 i) (hz : U64 z) (hB : B <= w.heap.size) :
  Calls Tryz.prog 36 #[v,.int .u64 p,.int .i64 kind,.int .i64 i,.int .u64 z] w fun e w'=>e = .returned (.int .i64 (setM os p kind i z).2) /\ PNPost B v vn N F w (setM os p kind i z).1 nm w':=by
 obtain ⟨F1,F2,h1,h2,h3,h4⟩:=h.ok
 refine (pset_any h.fine p kind i z hp hk hi hz w h1 hB).mono ?_
 rintro e w' ⟨rfl,hp'⟩
 exact ⟨rfl,PN.heap h1 h2 h3 h4 hp' (set_ok h.fine hz)⟩
theorem PN.room (h : PN B v vn N os nm F w) : Calls Tryz.prog 86 #[v] w fun e w'=>e = .returned (.int .i64 (N - (usedL os : Nat))) /\ Below w.heap.size w w':=by
 obtain ⟨F1,F2,h1,h2,h3,h4⟩:=h.ok
 have:=proom_any w h1
 rw [wordsL_length] at this
 exact this
theorem right5 {n : Nat} (h : n <= 1073741824) : rightB 5 (n : Int) 0 = true:=by unfold rightB;simp;omega
theorem pname_word (h : PN B v vn N os nm F w) (t : ByteArray) (hB : B <= w.heap.size) (hl : nm.length <= 1000000) (ht : t.size <= 1000000) :
  Calls Tryz.prog 177 #[vn,.string t] w fun e w'=>e = .returned (.int .u64 (wordR 5 ((idM nm t : Nat) : Int) 0)) /\ PNPost B v vn N F w os (idL nm t) w':=by
 have C:=hid (pn_id h t hB hl ht)
 obtain ⟨gh,gp,_,rfl⟩:=h.ptrs
 have hle:=idM_le nm t
 have CN : Hid (∀ W,Calls Tryz.prog 200 #[.int .i64 (idM nm t : Nat)] W fun e w'=>e = .returned (.tuple #[.int .u64 (wordR 5 ((idM nm t : Nat) : Int) 0),.bool true]) /\ w' = W):=fun W=>by
  have:=name_any ((idM nm t : Nat) : Int) (by unfold Z64;omega) W
  rw [right5 (by omega)] at this
  exact this
 obtain ⟨x,hx⟩ : ∃ x,x = wordR 5 ((idM nm t : Nat) : Int) 0:=⟨_,rfl⟩
 rw [<- hx] at CN ⊢
 obtain ⟨k,hk⟩ : ∃ k,k = idM nm t:=⟨_,rfl⟩
 rw [<- hk] at CN C
 clear hx hk h hle
 go_enter Tryz.func177,Tryz.ntmps177
 go_wp2_with (first
  | (go_at_call 32;(with_reducible refine C.out.mono ?_);rintro e W1 ⟨rfl,p1⟩;have HP:=hid p1;have C2:=hid (CN.out W1);clear p1)
  | (go_at_call 200;(with_reducible refine C2.out.mono ?_);rintro e W2 ⟨rfl,hw2⟩;rw [hw2];clear hw2))
 go_ret
 exact ⟨rfl,HP.out⟩
def intW (os : List Ob) (N : Int) (t : ByteArray) : Int:=if fixB (txZ t) = true then wordR 1 (txZ t) 0 else (allocM os N 5 (bigL (decide (txZ t < 0)) (mg (txZ t).natAbs))).1
def intO (os : List Ob) (N : Int) (t : ByteArray) : List Ob:=if fixB (txZ t) = true then os else allocO os N 5 (bigL (decide (txZ t < 0)) (mg (txZ t).natAbs))
set_option maxHeartbeats 4000000 in
theorem play_int (h : PN B v vn N os nm F w) (t : ByteArray) (ht : t.size <= 5000) (hp : printedB t = true) (hB : B <= w.heap.size) (ho : OsOk (intO os N t)) :
  Calls Tryz.prog 175 #[v,.string t] w fun e w'=>e = .returned (.int .u64 (intW os N t)) /\ PNPost B v vn N F w (intO os N t) nm w':=by
 have C:=hid (ptxt_parse t ht hp w)
 have HH:=hid h
 have CF : Hid (∀ (neg : Bool) (ao : Option Addr) (n cap : Nat) (l : List Nat) (W : World),Row .u32 B32 W ao n cap l -> goodB neg l = true -> Calls Tryz.prog 159 #[.agg #[.bool neg,.slice ao n cap]] W (PFixPost (sgn neg (val B32 l)) W)):=fun neg ao n cap l W R g=>pfixed_any neg ao n cap l W R g
 obtain ⟨gh,gp,hv,_⟩:=h.ptrs
 have HBB:=hid hB
 unfold intW
 unfold intO at ho ⊢
 clear h ht hp hB
 cases hf : fixB (txZ t)
 ·rw [if_neg (by decide), if_neg (by decide)]
  rw [hf,if_neg (by decide)] at ho
  have HO:=hid ho
  have HF:=hid hf
  have CA : Hid (∀ (ao : Option Addr) (n cap : Nat) (W : World),Below w.heap.size w W -> n <= 1000000 -> URow W ao n cap (bigL (decide (txZ t < 0)) (mg (txZ t).natAbs)) -> (∀ a,ao = some a -> w.heap.size <= a.block) -> Calls Tryz.prog 47 #[v,.int .i64 5,.slice ao n cap] W fun e w'=>e = .returned (.tuple #[.int .u64 (allocM os N 5 (bigL (decide (txZ t < 0)) (mg (txZ t).natAbs))).1,.int .i64 (allocM os N 5 (bigL (decide (txZ t < 0)) (mg (txZ t).natAbs))).2]) /\ PNPost B v vn N F w (allocO os N 5 (bigL (decide (txZ t < 0)) (mg (txZ t).natAbs))) nm w'):=fun ao n cap W hb hn hu ha=>by
   refine (pn_alloc (HH.out.on hb) 5 (by unfold Z64;omega) ao n cap _ hu (Nat.le_trans HBB.out hb.size) (fun a e hf=>?_) hn HO.out).mono ?_
   ·have:=ha a e;have:=(HH.out.ge _ hf).2;omega
   ·rintro e w' ⟨rfl, p⟩
    exact ⟨rfl,p.front hb⟩
  have CB : Hid (∀ (neg : Bool) (ao : Option Addr) (n cap : Nat) (l : List Nat) (W : World),Row .u32 B32 W ao n cap l -> n <= 40 -> Calls Tryz.prog 198 #[.agg #[.bool neg,.slice ao n cap]] W fun e w'=>∃ v,e = .returned v /\ w'.ownsRow W.heap.size 44 1 v (n + 1) (uz (bigL neg l)) /\ Below W.heap.size W w'):=fun neg ao n cap l W R hn=>pbig_any neg ao n cap l W R (by omega)
  have HBU : Hid (∀ z∈bigL (decide (txZ t < 0)) (mg (txZ t).natAbs),U64 z):=bigL_u _ _
  have HBL : Hid ((bigL (decide (txZ t < 0)) (mg (txZ t).natAbs)).length = (mg (txZ t).natAbs).length + 1):=bigL_len _ _
  obtain ⟨A,hA⟩ : ∃ A,A = allocM os N 5 (bigL (decide (txZ t < 0)) (mg (txZ t).natAbs)):=⟨_,rfl⟩
  rw [<- hA] at CA ⊢
  obtain ⟨A1,A2⟩:=A
  simp only at CA ⊢
  clear hf hA ho
  subst hv
  go_enter Tryz.func175,Tryz.ntmps175
  go_wp2_with (first
   | (go_at_call 197;(with_reducible refine C.out.mono ?_);rintro e W1 ⟨neg,ao,n,cap,l,rfl,R,g,hz,hng,hl,hn40,b1⟩;have HBX:=hid (Ba W1 (.cells #[.bool neg,.slice ao n cap] 104));have hx:=blk_new W1 #[.bool neg,.slice ao n cap] 104;have HX:=hid hx;have c0 : (W1.alloc (.cells #[.bool neg,.slice ao n cap] 104)).cell? ⟨W1.heap.size,0,none⟩ = some (.bool neg):=blk_cell hx 0;have c1 : (W1.alloc (.cells #[.bool neg,.slice ao n cap] 104)).cell? ⟨W1.heap.size,1,none⟩ = some (.slice ao n cap):=blk_cell hx 1;have HR1:=hid (R.below HBX.out);have C2:=hid (CF.out neg ao n cap l _ HR1.out g);rw [hz] at C2;unfold PFixPost at C2;rw [HF.out] at C2;have HB1:=hid (Bt b1 HBX.out);have HLL:=hid hl;have HNG:=hid hng;have HLN:=hid R.len;clear b1 R g hz hng hl hx)
   | (go_at_call 159;(with_reducible refine C2.out.mono ?_);rintro e W2 ⟨x,rfl,_,b2⟩;have HB2:=hid (Bt HB1.out b2);have hx2:=(b2.block W1.heap.size (by rw [size_alloc];omega)).trans HX.out;have d0 : W2.cell? ⟨W1.heap.size,0,none⟩ = some (.bool neg):=blk_cell hx2 0;have d1 : W2.cell? ⟨W1.heap.size,1,none⟩ = some (.slice ao n cap):=blk_cell hx2 1;have C3:=hid (CB.out neg ao n cap l W2 (HR1.out.below b2) hn40);clear b2 hx2)
   | (go_at_call 198;(with_reducible refine C3.out.mono ?_);rintro e W3 ⟨vb,rfl,ho3,b3⟩;have HB3:=hid (Bt HB2.out b3);rw [HNG.out,HLL.out] at ho3;have e3 : n + 1 = (bigL (decide (txZ t < 0)) (mg (txZ t).natAbs)).length:=(by rw [HBL.out,<- HLL.out,HLN.out]);rw [e3] at ho3;obtain ⟨a3,cap3,hv3,hu3⟩:=urow_own ho3 HBU.out;have hlt3:=fun b e=>(ho3.lt b e).1;rw [hv3] at hlt3 ⊢;rw [<- e3] at hu3 hlt3 ⊢;have C4:=hid (CA.out a3 (n + 1) cap3 W3 HB3.out (by omega) hu3 (fun a e=>Nat.le_trans HB2.out.size (hlt3 a.block (by rw [e];rfl))));clear b3 hu3 hlt3 hv3 ho3 e3)
   | (go_at_call 47;(with_reducible refine C4.out.mono ?_);rintro e W4 ⟨rfl,p4⟩;have HP4:=hid p4;clear p4))
  go_ret
  exact ⟨rfl,HP4.out⟩
 ·rw [if_pos rfl, if_pos rfl]
  have HF:=hid hf
  have same : Hid (∀ W,Below w.heap.size w W -> PNPost B v vn N F w os nm W):=fun W hb=>PNPost.same HH.out hb
  obtain ⟨x,hx⟩ : ∃ x,x = wordR 1 (txZ t) 0:=⟨_,rfl⟩
  rw [<- hx]
  have HX:=hid hx
  clear hf hx ho
  subst hv
  go_enter Tryz.func175,Tryz.ntmps175
  go_wp2_with (first
   | (go_at_call 197;(with_reducible refine C.out.mono ?_);rintro e W1 ⟨neg,ao,n,cap,l,rfl,R,g,hz,hng,hl,hn40,b1⟩;have HBX:=hid (Ba W1 (.cells #[.bool neg,.slice ao n cap] 104));have hx:=blk_new W1 #[.bool neg,.slice ao n cap] 104;have c0 : (W1.alloc (.cells #[.bool neg,.slice ao n cap] 104)).cell? ⟨W1.heap.size,0,none⟩ = some (.bool neg):=blk_cell hx 0;have c1 : (W1.alloc (.cells #[.bool neg,.slice ao n cap] 104)).cell? ⟨W1.heap.size,1,none⟩ = some (.slice ao n cap):=blk_cell hx 1;have C2:=hid (CF.out neg ao n cap l _ (R.below HBX.out) g);rw [hz] at C2;unfold PFixPost at C2;rw [HF.out,<- HX.out] at C2;have HB1:=hid (Bt b1 HBX.out);clear b1 R g hz hng hl hx)
   | (go_at_call 159;(with_reducible refine C2.out.mono ?_);rintro e W2 ⟨x2,rfl,hx2,b2⟩;rw [hx2 (by trivial)];have HB2:=hid (Bt HB1.out b2);clear b2 hx2))
  go_ret
  exact ⟨rfl,same.out _ HB2.out⟩
end
def SB (gs : Nat) (v vn : Value) (w : World) : Prop:=w.cell? ⟨gs,0,none⟩ = some v /\ w.cell? ⟨gs,1,none⟩ = some vn /\ gs < w.heap.size
theorem SB.on {gs : Nat} {v vn : Value} {w w' : World} (h : SB gs v vn w) (hb : Below w.heap.size w w') : SB gs v vn w' :=
 ⟨(hb.cell (p:=⟨gs,0,none⟩) h.2.2).trans h.1,(hb.cell (p:=⟨gs,1,none⟩) h.2.2).trans h.2.1,Nat.lt_of_lt_of_le h.2.2 hb.size⟩
def OPost (d : Nd) (w : World) (e : Ending) (w' : World) : Prop:=∃ ak nk ck,e = .returned (.tuple #[bareV d,.slice ak nk ck]) /\ URow w' ak nk ck d.kids /\ (∀ a,ak = some a -> w.heap.size <= a.block) /\ Below w.heap.size w w'
theorem OPost.bare {k m : Int} {t : ByteArray} {w w' : World} (hb : Below w.heap.size w w') : OPost ⟨k,m,t,[]⟩ w (.returned (.tuple #[.agg #[.int .i64 k,.int .i64 m,.string t,.slice none 0 0],.slice none 0 0])) w':=⟨none,0,0,rfl,unil _,fun a e=>(by cases e),hb⟩
theorem wkeyed : Maps.Keyed Tryz.prog 44:=Maps.int_keyed Tryz.underlying44
theorem wkey_of {z : Int} (hz : U64 z) : keyOf Tryz.prog 44 (.int .u64 z) = some (.int .u64 z):=Maps.keyOf_int_mk Tryz.underlying44 (by unfold U64 at hz;simp [Lit.wf,IntKind.min,IntKind.max,IntKind.signed,IntKind.bits];omega)
def MapW (w : World) (Bm : Nat) (q : List Int) : Prop :=
 ∃ D,w.ownsMap (H:=Unit) Tryz.prog 44 (plainElem Tryz.prog 3) Bm q.length D /\ ∀ z,U64 z -> Maps.has D (.int .u64 z) = decide (z∈q) /\ (z∈q -> D.atKey (.int .u64 z) (.lit (.int .i64 0)) = .lit (.int .i64 ((q.idxOf z : Nat) : Int)))
section
variable {w w' : World} {Bm : Nat} {q : List Int} {z : Int}
theorem MapW.frame (h : MapW w Bm q) (hb : w'.heap[Bm]? = w.heap[Bm]?) : MapW w' Bm q:=by
 obtain ⟨D,⟨es,clock,h1,h2,h3,h4⟩,h5⟩:=h
 exact ⟨D,⟨es,clock,hb.trans h1,h2,h3,h4⟩,h5⟩
theorem MapW.made (w : World) : MapW (w.alloc (.map #[] 0)) w.heap.size [] :=
 ⟨.map [],World.ownsMap_made w _ _ _,fun z hz=>⟨by simp [Maps.has],fun h=>by cases h⟩⟩
theorem MapW.look_ok (h : MapW w Bm q) (hz : U64 z) : ∃ c : Int,(Instr.lookup 81 (.map (some Bm)) (.int .u64 z) true).run Tryz.prog w = .ok (.tuple #[.int .i64 c,.bool (decide (z∈q))]) w /\ (z∈q -> c = (q.idxOf z : Nat)):=by
 obtain ⟨D,h1,h3⟩:=h
 obtain ⟨v,ps,hrun,hv⟩:=h1.look_ok wkeyed Tryz.underlying81 (zint' w) (plainElem_int Tryz.underlying3 (a:=0) (by decide)) (wkey_of hz)
 obtain ⟨c,rfl,hc,_⟩:=plainElem_int_inv Tryz.underlying3 hv
 refine ⟨c,by rw [hrun,(h3 z hz).1],fun hl=>?_⟩
 have:=(h3 z hz).2 hl
 have hc1:=congrArg Prod.fst hc
 simp only at hc1
 rw [this] at hc1
 injection hc1 with hc1
 injection hc1 with _ hc1
 exact hc1.symm
theorem MapW.store (h : MapW w Bm q) (hz : U64 z) (hm : z ∉ q) (hl : q.length <= 1000000) : ∃ w',(Instr.mapUpdate 81 (.map (some Bm)) (.int .u64 z) (.int .i64 (q.length : Nat))).run Tryz.prog w = .ok () w' /\ MapW w' Bm (q ++ [z]) /\ w.grownBy w' (some Bm):=by
 obtain ⟨D,h1,h3⟩:=h
 obtain ⟨w',hrun,ho,ht⟩:=h1.store wkeyed Tryz.underlying81 (by unfold maxLen;omega) (wkey_of hz) (plainElem_int Tryz.underlying3 (a:=(q.length : Nat)) (WalkArith.wf_i64 (by omega)))
 refine ⟨w',hrun,⟨_,by rw [List.length_append];exact ho,fun y hy=>?_⟩,ht.grown⟩
 by_cases e : y = z
 ·subst e
  refine ⟨?_,fun _=>?_⟩
  ·rw [Maps.has_put_same h1.isMap (wkeyed.key (wkey_of hz))];simp
  ·rw [Maps.atKey_put_same h1.isMap (wkeyed.key (wkey_of hz)),List.idxOf_append,if_neg hm];simp
 ·have hne : (Lit.int .u64 y) ≠ .int .u64 z := fun e' => e (by injection e')
  obtain ⟨g1,g2⟩:=h3 y hy
  refine ⟨?_,fun hmem=>?_⟩
  ·rw [Maps.has_put_other hne, g1]
   congr 1
   simp [e]
  ·have hyq : y ∈ q := by
    rcases List.mem_append.1 hmem with h | h
    ·exact h
    ·exact absurd (List.mem_singleton.1 h) e
   rw [Maps.atKey_put_other hne,g2 hyq,List.idxOf_append,if_pos hyq]
end
structure SH (b : Nat) (w0 : World) (v vn vW : Value) (W mq : List Int) (w : World) : Prop where
 bel : Below b w0 w
 box : w.heap[b + 1]? = some (.cells #[v,vn,vW,.map (some b)] 83 (0,0))
 mp : MapW w b mq
 ow : w.ownsRow (b + 2) 44 1 vW W.length (uz W)
structure Oth (b : Nat) (vW : Value) (w w' : World) : Prop where
 size : w.heap.size <= w'.heap.size
 blk : ∀ k,k < w.heap.size -> k ≠ b -> k ≠ b + 1 -> vW.ownBlock ≠ some k -> w'.heap[k]? = w.heap[k]?
section
variable {b : Nat} {w0 w w' w1 : World} {v vn vW : Value} {W mq : List Int}
theorem SH.lt (h : SH b w0 v vn vW W mq w) : b + 2 <= w.heap.size:=(Array.getElem?_eq_some_iff.1 h.box).1
theorem SH.on (h : SH b w0 v vn vW W mq w) (hb : Below w.heap.size w w') : SH b w0 v vn vW W mq w':=by
 have hl:=h.lt
 exact ⟨h.bel.trans (hb.mono (by omega)),(hb.block _ (by omega)).trans h.box,h.mp.frame (hb.block _ (by omega)),uown_on h.ow hb⟩
theorem Oth.of_below {vW : Value} (hb : Below w.heap.size w w') : Oth b vW w w':=⟨hb.size,fun k hk _ _ _=>hb.block k hk⟩
theorem Oth.trans {vW vW' : Value} (h : Oth b vW w w1) (k : Oth b vW' w1 w') (hv : ∀ j,j < w.heap.size -> vW'.ownBlock = some j -> vW.ownBlock = some j) : Oth b vW w w' :=
 ⟨Nat.le_trans h.size k.size,fun j hj h1 h2 h3=>(k.blk j (Nat.lt_of_lt_of_le hj h.size) h1 h2 (fun e=>h3 (hv j hj e))).trans (h.blk j hj h1 h2 h3)⟩
theorem SH.turn {mq' : List Int} (h : SH b w0 v vn vW W mq w) (hg : w.grownBy w' (some b)) (hm : MapW w' b mq') : SH b w0 v vn vW W mq' w' /\ Oth b vW w w':=by
 have hl:=h.lt
 have hk : ∀ k,k < w.heap.size -> k ≠ b -> w'.heap[k]? = w.heap[k]?:=fun k hk hne=>hg.block k hk (fun e=>hne (Option.some.inj e))
 refine ⟨⟨h.bel.trans ⟨hg.os,hg.tape,hg.output,hg.size,fun k hk'=>hk k (by omega) (by omega)⟩,(hk _ (by omega) (by omega)).trans h.box,hm,own_at h.ow (fun k e=>?_)⟩,hg.size,fun k h1 h2 _ _=>hk k h1 h2⟩
 have:=h.ow.lt k e
 exact hk k this.2 (by omega)
theorem SH.push {W' : List Int} {g cap n : Nat} (h : SH b w0 v vn vW W mq w) (hn : W'.length = n) (ho : w'.ownsRow (b + 2) 44 1 (.slice (some ⟨g,0,none⟩) n cap) n (uz W')) (hg : w.grownBy w' vW.ownBlock) (hl : vW.ownBlock = some g \/ g = w.heap.size) :
  SH b w0 v vn (.slice (some ⟨g,0,none⟩) n cap) W' mq (w'.setCell ⟨b + 1,2,none⟩ (.slice (some ⟨g,0,none⟩) n cap)) /\ Oth b vW w (w'.setCell ⟨b + 1,2,none⟩ (.slice (some ⟨g,0,none⟩) n cap)) /\ w'.cell? ⟨b + 1,2,none⟩ = some vW /\ w'.frozen? ⟨b + 1,2,none⟩ = false:=by
 subst hn
 have hs:=h.lt
 have hw2 : ∀ k,vW.ownBlock = some k -> b + 2 <= k:=fun k e=>(h.ow.lt k e).1
 have hk : ∀ k,k < w.heap.size -> vW.ownBlock ≠ some k -> w'.heap[k]? = w.heap[k]?:=fun k hk hne=>hg.block k hk (fun e=>hne e.symm)
 have hlow : ∀ k,k < b + 2 -> w'.heap[k]? = w.heap[k]?:=fun k hkb=>hk k (by omega) (fun e=>by have:=hw2 k e;omega)
 have hset : ∀ k,k ≠ b + 1 -> (w'.setCell ⟨b + 1,2,none⟩ (.slice (some ⟨g,0,none⟩) W'.length cap)).heap[k]? = w'.heap[k]?:=fun k hne=>Below.heap_setCell _ _ _ _ hne
 have hg2 : b + 2 <= g:=by rcases hl with e | e;exact hw2 g e;omega
 have hbx:=(hlow (b + 1) (by omega)).trans h.box
 have hsz : (w'.setCell ⟨b + 1,2,none⟩ (.slice (some ⟨g,0,none⟩) W'.length cap)).heap.size = w'.heap.size:=by simp [World.setCell]
 refine ⟨⟨?_,?_,h.mp.frame ((hset _ (by omega)).trans (hlow _ (by omega))),own_at ho (fun k e=>?_)⟩,⟨by rw [hsz];exact hg.size,fun k h1 h2 h3 h4=>(hset k h3).trans (hk k h1 h4)⟩,blk_cell hbx 2,blk_free hbx 2⟩
 ·exact (h.bel.trans ⟨hg.os,hg.tape,hg.output,hg.size,fun k hk'=>hlow k (by omega)⟩).setCell (p:=⟨b + 1,2,none⟩) (by show b <= b + 1;omega) _
 ·rw [blk_set (i:=2) hbx];rfl
 ·have e' : g = k := Option.some.inj e
  exact hset k (by omega)
end
def meetW (W : List Int) (x : Int) : List Int:=if x∈W then W else W ++ [x]
def metW (W l : List Int) : List Int:=l.foldl meetW W
def plL (W l : List Int) : List Int:=l.map (fun x=>(((metW W l).idxOf x : Nat) : Int))
theorem metW_take {W l : List Int} {q : Nat} (h : q < l.length) : metW W (l.take (q + 1)) = meetW (metW W (l.take q)) (l.getD q 0):=by
 unfold metW
 rw [List.take_succ_eq_append_getElem h,List.foldl_append,List.getD_eq_getElem?_getD,List.getElem?_eq_getElem h];rfl
theorem meet_pre (W : List Int) (x : Int) : W <+: meetW W x:=by
 unfold meetW;split
 ·exact List.prefix_refl _
 ·exact List.prefix_append _ _
theorem meet_mem (W : List Int) (x : Int) : x∈meetW W x:=by
 unfold meetW;split
 ·assumption
 ·simp
theorem met_pre (W : List Int) : ∀ l : List Int,W <+: metW W l
 | []=>List.prefix_refl _
 | x :: l=>(meet_pre W x).trans (met_pre (meetW W x) l)
theorem met_mem {l : List Int} : ∀ {W : List Int} {x : Int},x∈l -> x∈metW W l:=by
 induction l with
 | nil=>intro W x h;cases h
 | cons y l ih =>
  intro W x h
  show x∈metW (meetW W y) l
  rcases List.mem_cons.1 h with rfl | h
  ·exact (met_pre _ l).subset (meet_mem W x)
  ·exact ih h
theorem idx_pre {a c : List Int} {x : Int} (h : a <+: c) (hx : x∈a) : c.idxOf x = a.idxOf x:=by
 obtain ⟨d,rfl⟩:=h
 rw [List.idxOf_append,if_pos hx]
theorem plL_take {W l : List Int} {q : Nat} (h : q < l.length) : plL W (l.take (q + 1)) = plL W (l.take q) ++ [(((metW W (l.take (q + 1))).idxOf (l.getD q 0) : Nat) : Int)]:=by
 have e : l.take (q + 1) = l.take q ++ [l.getD q 0]:=by rw [List.take_succ_eq_append_getElem h,List.getD_eq_getElem?_getD,List.getElem?_eq_getElem h];rfl
 have hm:=metW_take (W:=W) h
 unfold plL
 conv=>lhs;arg 2;rw [e]
 rw [List.map_append]
 congr 1
 refine List.map_congr_left (fun x hx=>?_)
 rw [hm,idx_pre (meet_pre _ _) (met_mem hx)]
theorem meet_nodup {W : List Int} {x : Int} (h : W.Nodup) : (meetW W x).Nodup:=by
 unfold meetW;split
 ·exact h
 ·rename_i hx
  rw [List.nodup_append]
  refine ⟨h,by simp,fun a ha b hb=>?_⟩
  rw [List.mem_singleton.1 hb]
  exact fun e=>hx (by rw [<- e];exact ha)
theorem met_nodup : ∀ (l : List Int) {W : List Int},W.Nodup -> (metW W l).Nodup
 | [],_,h=>h
 | x :: l,W,h=>met_nodup l (W:=meetW W x) (meet_nodup h)
theorem meet_sub {W : List Int} {x y : Int} (h : y∈meetW W x) : y∈W \/ y = x:=by
 unfold meetW at h;split at h
 ·exact .inl h
 ·rcases List.mem_append.1 h with h | h
  ·exact .inl h
  ·exact .inr (List.mem_singleton.1 h)
theorem met_sub : ∀ {l W : List Int} {y : Int},y∈metW W l -> y∈W \/ y∈l
 | [],_,_,h=>.inl h
 | x :: l, W, y, h => by
  rcases met_sub (l:=l) (W:=meetW W x) h with h | h
  ·rcases meet_sub h with h | h
   ·exact .inl h
   ·exact .inr (by rw [h];exact List.mem_cons_self)
  ·exact .inr (List.mem_cons_of_mem _ h)
end Go.Proofs.YticimejfjjmikaaGreatDoor
