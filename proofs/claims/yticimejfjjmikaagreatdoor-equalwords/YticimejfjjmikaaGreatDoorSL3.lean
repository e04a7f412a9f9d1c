import Derived.Test.YticimejfjjmikaaGreatDoorSG6
import Derived.Test.YticimejfjjmikaaGreatDoorV9a
import Derived.Test.YticimejfjjmikaaGreatDoorSG1
import Derived.Test.YticimejfjjmikaaGreatDoorU0
import Derived.Test.YticimejfjjmikaaGreatDoorQ1
import Derived.Laws.Cover4
import Derived.Laws.BytesArg
import Derived.Test.YticimejfjjmikaaGreatDoorST5
import Derived.Test.YticimejfjjmikaaGreatDoorW16
import Derived.Test.YticimejfjjmikaaGreatDoorST3
set_option linter.unusedVariables false
set_option linter.unusedSimpArgs false
namespace Go.Proofs.YticimejfjjmikaaGreatDoor
open Go.RowKit
theorem word_nohd (k n : Int) (hk : k ≠ 8) : isHd (wordR k n 0) = false:=by
 unfold isHd
 refine decide_eq_false (fun e=>?_)
 cases h : rightB k n 0
 ·have e0 : wordR k n 0 = 0 := by unfold wordR; rw [h]; rfl
  rw [e0] at e
  revert e;decide
 ·have := (say h hk rfl).1
  unfold nK at this
  rw [this] at e
  exact hk e
theorem plainWd_nohd (ls : List ByteArray) (d : Nd) : isHd (plainWd ls d) = false:=by
 unfold plainWd
 repeat' split
 all_goals exact word_nohd _ _ (by decide)
theorem putS_nohd {nm : List ByteArray} {a : Nat} {cs : List Nd} : ∀ q,q <= cs.length -> ∀ z∈(putS nm a (cs.take q)).ws,isHd z = false
 | 0,_=>by simp [putS]
 | q + 1, h => by
  rw [putS_take (by omega)]
  have ih:=putS_nohd (nm:=nm) (a:=a) (cs:=cs) q (by omega)
  unfold stepP
  split
  ·intro z hz
   rcases List.mem_append.1 hz with hz | hz
   ·exact ih z hz
   ·obtain rfl:=List.mem_singleton.1 hz;exact plainWd_nohd _ _
  ·intro z hz
   rcases List.mem_append.1 hz with hz | hz
   ·exact ih z hz
   ·obtain rfl:=List.mem_singleton.1 hz;exact word_nohd _ _ (by decide)
theorem zero_nohd : isHd 0 = false:=by decide
theorem getD_nohd {ws : List Int} (h : ∀ z∈ws,isHd z = false) (i : Nat) : isHd (ws.getD i 0) = false:=by
 by_cases hi : i < ws.length
 ·exact h _ (getD_mem_w hi)
 ·rw [List.getD_eq_getElem?_getD,List.getElem?_eq_none (by omega)];exact zero_nohd
theorem fields_nohd (d : Nd) {ws : List Int} (h : ∀ z∈ws,isHd z = false) : ∀ z∈fieldsL d ws,isHd z = false:=by
 intro z hz
 unfold fieldsL at hz
 split at hz
 ·unfold bigL at hz
  rcases List.mem_cons.1 hz with rfl | hz
  ·exact word_nohd _ _ (by decide)
  ·obtain ⟨x,_,rfl⟩:=List.mem_map.1 hz;exact word_nohd _ _ (by decide)
 split at hz
 ·obtain ⟨x,_,rfl⟩:=List.mem_map.1 hz;exact word_nohd _ _ (by decide)
 split at hz
 ·unfold bytesL at hz
  obtain ⟨x,_,rfl⟩:=List.mem_map.1 hz;exact word_nohd _ _ (by decide)
 ·obtain ⟨x,_,rfl⟩:=List.mem_map.1 hz;exact getD_nohd h _
def objsOf (ws : List Int) (cs : List Nd) : List Ob:=(cs.filter (fun d=>decide (0 < sizeN d))).map (fun d=>⟨fieldsK d,fieldsL d ws⟩)
theorem fieldsK_rng (d : Nd) : 1 <= fieldsK d /\ fieldsK d <= 5:=by
 unfold fieldsK
 repeat' split
 all_goals omega
theorem objsOf_take {ws : List Int} {cs : List Nd} {q : Nat} (h : q < cs.length) : objsOf ws (cs.take (q + 1)) = objsOf ws (cs.take q) ++ (if 0 < sizeN (cs.getD q default) then [⟨fieldsK (cs.getD q default),fieldsL (cs.getD q default) ws⟩] else []):=by
 have e : cs.getD q default = cs[q]:=by rw [List.getD_eq_getElem?_getD,List.getElem?_eq_getElem h];rfl
 unfold objsOf
 rw [List.take_succ_eq_append_getElem h,List.filter_append,List.map_append,e]
 congr 1
 by_cases hz : 0 < sizeN cs[q]
 ·rw [if_pos hz,List.filter_cons_of_pos (by exact decide_eq_true hz)];rfl
 ·rw [if_neg hz,List.filter_cons_of_neg (by rw [decide_eq_false hz];decide)];rfl
theorem objsOf_used {ws : List Int} {cs : List Nd} (hs : cs.all (fun d=>decide (0 <= sizeN d)) = true) : ∀ q,q <= cs.length -> ((usedL (objsOf ws (cs.take q)) : Nat) : Int) = sumN (cs.take q)
 | 0,_=>by simp [objsOf,usedL,sumN]
 | q + 1, h => by
  have hq : q < cs.length:=by omega
  have ih:=objsOf_used (ws:=ws) hs q (by omega)
  have hm : cs.getD q default∈cs:=by rw [List.getD_eq_getElem?_getD,List.getElem?_eq_getElem hq];exact List.getElem_mem _
  have h0:=of_decide_eq_true (List.all_eq_true.1 hs _ hm)
  rw [objsOf_take hq,sumN_take hq,usedL_append]
  by_cases hz : 0 < sizeN (cs.getD q default)
  ·have := fieldsL_len (ws := ws) hz
   rw [if_pos hz]
   show ((usedL (objsOf ws (cs.take q)) + (1 + (fieldsL (cs.getD q default) ws).length + 0) : Nat) : Int) = _
   omega
  ·rw [if_neg hz]
   show ((usedL (objsOf ws (cs.take q)) + 0 : Nat) : Int) = _
   omega
theorem putO_is {N : Int} {os : List Ob} {ws : List Int} {cs : List Nd} (hw : ∀ z∈ws,isHd z = false) (hs : cs.all (fun d=>decide (0 <= sizeN d)) = true) (hr : ((usedL os : Nat) : Int) + sumN cs <= N) : ∀ q,q <= cs.length -> putO N ws os (cs.take q) = os ++ objsOf ws (cs.take q)
 | 0,_=>by simp [putO,objsOf]
 | q + 1, h => by
  have hq : q < cs.length:=by omega
  have ih:=putO_is (N:=N) (os:=os) hw hs hr q (by omega)
  have hu:=objsOf_used (ws:=ws) hs q (by omega)
  have hsum:=sumN_le hs (q + 1)
  rw [sumN_take hq] at hsum
  rw [putO_take hq,objsOf_take hq,ih]
  by_cases hz : 0 < sizeN (cs.getD q default)
  ·rw [if_pos hz, if_pos hz]
   have hk:=fieldsK_rng (cs.getD q default)
   have hl:=fieldsL_len (ws:=ws) hz
   have hany : (fieldsL (cs.getD q default) ws).any isHd = false:=by
    rw [List.any_eq_false]
    intro z hz'
    rw [fields_nohd _ hw z hz'];decide
   have hal : (allocM (os ++ objsOf ws (cs.take q)) N (fieldsK (cs.getD q default)) (fieldsL (cs.getD q default) ws)).2 = 0:=by
    unfold allocM
    rw [if_neg (by omega),hany,if_neg (by decide),if_neg (by rw [usedL_append];omega)]
   unfold allocO
   rw [if_pos hal,List.append_assoc]
  ·rw [if_neg hz,if_neg hz,List.append_nil]
section
variable {N : Int} {os : List Ob} {nm : List ByteArray} {cs : List Nd}
structure PutOk (N : Int) (os : List Ob) (nm : List ByteArray) (cs : List Nd) : Prop where
 nd : ∀ d∈cs,nodeB cs.length d = true
 cn : ∀ d∈cs,CNd d
 sz : cs.all (fun d=>decide (0 <= sizeN d)) = true
 room : ((usedL os : Nat) : Int) + sumN cs <= N
 most : N <= 4194304
 nms : nm.length + cs.length <= 1000000000
theorem PutOk.objs (h : PutOk N os nm cs) : putO N (putS nm (usedL os) cs).ws os cs = os ++ objsOf (putS nm (usedL os) cs).ws cs:=by
 have hw:=putS_nohd (nm:=nm) (a:=usedL os) (cs:=cs) cs.length (Nat.le_refl _)
 rw [List.take_length] at hw
 have:=putO_is (N:=N) (os:=os) hw h.sz h.room cs.length (Nat.le_refl _)
 rw [List.take_length] at this
 exact this
theorem PutOk.used (h : PutOk N os nm cs) : ((usedL (os ++ objsOf (putS nm (usedL os) cs).ws cs) : Nat) : Int) = (usedL os : Nat) + sumN cs /\ usedL (os ++ objsOf (putS nm (usedL os) cs).ws cs) <= 4194304:=by
 have:=objsOf_used (ws:=(putS nm (usedL os) cs).ws) h.sz cs.length (Nat.le_refl _)
 rw [List.take_length] at this
 have hr:=h.room
 have hm:=h.most
 rw [usedL_append]
 omega
theorem PutOk.place (h : PutOk N os nm cs) {i : Nat} (hi : i < cs.length) (hz : 0 < sizeN (cs.getD i default)) :
  ∃ k,findM (os ++ objsOf (putS nm (usedL os) cs).ws cs) ((putS nm (usedL os) cs).ws.getD i 0) = some k /\ (os ++ objsOf (putS nm (usedL os) cs).ws cs).getD k default = ⟨fieldsK (cs.getD i default),fieldsL (cs.getD i default) (putS nm (usedL os) cs).ws⟩ /\ (putS nm (usedL os) cs).ws.getD i 0 = wordR 2 ((putS nm (usedL os) (cs.take i)).at_ : Nat) 0 /\ ((putS nm (usedL os) (cs.take i)).at_ : Int) = (usedL os : Nat) + sumN (cs.take i) /\ k = (os ++ objsOf (putS nm (usedL os) cs).ws (cs.take i)).length:=by
 have hu:=h.used.2
 have hw:=putS_word (nm:=nm) (a:=usedL os) hi
 rw [if_neg (by omega)] at hw
 have hat:=putS_at (nm:=nm) (a:=usedL os) h.sz i (by omega)
 generalize hws : (putS nm (usedL os) cs).ws = ws at *
 have hou:=objsOf_used (ws:=ws) h.sz i (by omega)
 have hsplit : ∃ rest,objsOf ws cs = objsOf ws (cs.take i) ++ (⟨fieldsK (cs.getD i default),fieldsL (cs.getD i default) ws⟩ :: rest):=by
  have e1 : cs = cs.take (i + 1) ++ cs.drop (i + 1):=(List.take_append_drop _ _).symm
  refine ⟨objsOf ws (cs.drop (i + 1)),?_⟩
  conv=>lhs;rw [e1]
  have e2 : ∀ x y : List Nd,objsOf ws (x ++ y) = objsOf ws x ++ objsOf ws y:=fun x y=>by unfold objsOf;rw [List.filter_append,List.map_append]
  rw [e2,objsOf_take hi,if_pos hz,List.append_assoc];rfl
 obtain ⟨rest,hsp⟩:=hsplit
 have hk : (os ++ objsOf ws (cs.take i)).length < (os ++ objsOf ws cs).length:=by
  rw [hsp,<- List.append_assoc];simp
 have hatk : atO (os ++ objsOf ws cs) (os ++ objsOf ws (cs.take i)).length = (putS nm (usedL os) (cs.take i)).at_:=by
  unfold atO
  rw [hsp,<- List.append_assoc,List.take_left,usedL_append]
  omega
 refine ⟨(os ++ objsOf ws (cs.take i)).length,?_,?_,hw,hat,rfl⟩
 ·rw [hw, <- hatk]
  exact find_ptr hk (by omega)
 ·rw [hsp,<- List.append_assoc,List.getD_eq_getElem?_getD,List.getElem?_append_right (Nat.le_refl _),Nat.sub_self];rfl
end
def dd : List Int -> List Int
 | []=>[]
 | x :: l=>if x∈l then dd l else x :: dd l
theorem mem_dd : ∀ {l : List Int} {x : Int},x∈dd l ↔ x∈l
 | [],x=>Iff.rfl
 | y :: l, x => by
  unfold dd
  by_cases h : y∈l
  ·rw [if_pos h, mem_dd, List.mem_cons]
   constructor
   ·exact .inr
   ·rintro (rfl | e)
    ·exact h
    ·exact e
  ·rw [if_neg h,List.mem_cons,List.mem_cons,mem_dd]
theorem nodup_dd : ∀ (l : List Int),(dd l).Nodup
 | []=>List.nodup_nil
 | y :: l=>by
  unfold dd
  by_cases h : y∈l
  ·rw [if_pos h];exact nodup_dd l
  ·rw [if_neg h];exact List.nodup_cons.2 ⟨fun e=>h (mem_dd.1 e),nodup_dd l⟩
theorem ok_kids {d : Nd} (h : okD d = true) (ha : atomB d.kind = true) : d.kids = []:=by
 unfold okD at h
 rw [Bool.and_eq_true] at h
 have hk : d.kind = 1 \/ d.kind = 2 \/ d.kind = 3 \/ d.kind = 4 \/ d.kind = 6 \/ d.kind = 10 \/ d.kind = 11:=by
  unfold atomB at ha
  simp only [Bool.or_eq_true,decide_eq_true_eq] at ha
  omega
 refine no_kids h.2 ?_ ?_ ?_ ?_ ?_ <;> omega
section
variable {D Dc : Int -> Nd} {roots rootsc W Wc rs rc : List Int} {ns nc : List Nd} {ψ : Int -> Int} {f : Nat}
theorem told_two (T : Told D roots W ns rs) (Tc : Told Dc rootsc Wc nc rc) (hr : roots = rootsc.map ψ) (hok : ∀ x,okD (D x) = true)
  (hψ : ∀ x,Rch Dc rootsc x -> sameA (D (ψ x)) (Dc x) /\ (D (ψ x)).kids = (Dc x).kids.map ψ)
  (hi : ∀ x y,Rch Dc rootsc x -> Rch Dc rootsc y -> ψ x = ψ y -> x = y \/ atomB (Dc x).kind = true)
  (hb : ∀ x,Rch Dc rootsc x -> atomB (Dc x).kind = true -> (Dc x).kids = []) (F : Fine ns rs f) (Fc : Fine nc rc f) : canonG ns rs f = canonG nc rc f:=by
 have hin : ∀ i,i < ns.length -> W.getD i 0∈W:=fun i hi=>getD_mem_w (by rw [T.len];exact hi)
 have hc : ∀ x∈dd W,∀ y∈(D x).kids,y∈dd W:=fun x hx y hy=>by
  obtain ⟨i,hi,rfl⟩:=mem_getD_w (mem_dd.1 hx)
  rw [T.len] at hi
  rw [<- T.kids i hi] at hy
  obtain ⟨k,hk,rfl⟩:=List.mem_map.1 hy
  have:=T.kr i hi k hk
  exact mem_dd.2 (hin _ (by omega))
 have hrt : ∀ x∈roots,x∈dd W:=fun x hx=>by
  rw [<- T.rts] at hx
  obtain ⟨k,hk,rfl⟩:=List.mem_map.1 hx
  have:=T.rr k hk
  exact mem_dd.2 (hin _ (by omega))
 have TM:=told_mk (D:=D) (roots:=roots) (nodup_dd W) hc hrt
 have hg:=TM.good (fun x _=>hok x)
 have hn:=mk_nodup (D:=D) (nodup_dd W)
 have e1 : canonG (mkG D (dd W)) (roots.map (fun y=>(((dd W).idxOf y : Nat) : Int))) f = canonG ns rs f:=by
  have TM' : Told D (roots.map id) (dd W) (mkG D (dd W)) (roots.map (fun y=>(((dd W).idxOf y : Nat) : Int))):=by rw [List.map_id];exact TM
  exact told_canon T TM' hn (fun x _=>⟨⟨rfl,rfl,rfl⟩,(List.map_id _).symm⟩) (fun x y _ _ e=>.inl e) (fun x _ ha=>ok_kids (hok x) ha) F hg
 have e2 : canonG (mkG D (dd W)) (roots.map (fun y=>(((dd W).idxOf y : Nat) : Int))) f = canonG nc rc f:=by
  rw [hr] at TM hg ⊢
  exact told_canon Tc TM hn hψ hi hb Fc hg
 rw [<- e1,e2]
end
section
variable {N : Int} {os : List Ob} {nm : List ByteArray} {cs ns : List Nd} {crs rs W : List Int} {f : Nat}
abbrev pW (nm : List ByteArray) (os : List Ob) (cs : List Nd) (x : Int) : Int:=(putS nm (usedL os) cs).ws.getD x.toNat 0
abbrev pO (nm : List ByteArray) (os : List Ob) (cs : List Nd) : List Ob:=os ++ objsOf (putS nm (usedL os) cs).ws cs
abbrev pR (nm : List ByteArray) (os : List Ob) (cs : List Nd) (crs : List Int) : List Int:=crs.map (pW nm os cs)
end
set_option maxRecDepth 100000
def bareV (d : Nd) : Value:=.agg #[.int .i64 d.kind,.int .i64 d.num,.string d.text,.slice none 0 0]
def NZ (g : Nat) (w : World) : Prop:=w.heap[g]? = some (.cells #[.int .i64 0,.int .i64 0,.string ⟨#[]⟩,.slice none 0 0] 54 (0,0))
theorem NZ.c {g : Nat} {w : World} (h : NZ g w) : w.cell? ⟨g,0,none⟩ = some (.int .i64 0) /\ w.cell? ⟨g,1,none⟩ = some (.int .i64 0) /\ w.cell? ⟨g,2,none⟩ = some (.string ⟨#[]⟩) /\ w.cell? ⟨g,3,none⟩ = some (.slice none 0 0) /\ w.frozen? ⟨g,0,none⟩ = false /\ w.frozen? ⟨g,1,none⟩ = false /\ w.frozen? ⟨g,2,none⟩ = false /\ w.frozen? ⟨g,3,none⟩ = false :=
 ⟨blk_cell h 0,blk_cell h 1,blk_cell h 2,blk_cell h 3,blk_free h 0,blk_free h 1,blk_free h 2,blk_free h 3⟩
theorem NZ.new (w : World) : NZ w.heap.size (w.alloc (.cells #[.int .i64 0,.int .i64 0,.string ⟨#[]⟩,.slice none 0 0] 54)):=blk_new _ _ _
theorem NZ.on {g : Nat} {w w' : World} (h : NZ g w) (hb : Below w.heap.size w w') : NZ g w':=(hb.block g (Array.getElem?_eq_some_iff.1 h).1).trans h
theorem void_any (w : World) : Calls Tryz.prog 127 #[] w fun e w'=>e = .returned (bareV voidN) /\ Below w.heap.size w w':=by
 have hst:=blk_new w #[.int .i64 11,.int .i64 0,.string ⟨#[]⟩,.slice none 0 0] 54
 have t0:=blk_cell hst 0
 have t1:=blk_cell hst 1
 have t2:=blk_cell hst 2
 have t3:=blk_cell hst 3
 have HB:=hid (Ba w (.cells #[.int .i64 11,.int .i64 0,.string ⟨#[]⟩,.slice none 0 0] 54))
 clear hst
 go_enter Tryz.func127,Tryz.ntmps127
 go_wp2_with fail
 (try simp only [Exit.inBlock,Exit.then]);refine bodyPost_ret (by simp [results,Tryz.results127,go_sem,t0,t1,t2,t3];rfl) rfl ?_
 exact ⟨rfl,HB.out⟩
def uptoB (most x : Int) : Bool:=decide (nK x = 1) && (decide (0 <= nN x) && decide (nN x <= most))
theorem upto_any (most x : Int) (hx : U64 x) (w : World) : Calls Tryz.prog 157 #[.int .i64 most,.int .u64 x] w fun e w'=>∃ n,e = .returned (.tuple #[.int .i64 n,.bool (uptoB most x)]) /\ (uptoB most x = true -> n = nN x) /\ w' = w:=by
 have C:=hid (int_any x hx w)
 have e1 : isR 1 x = decide (nK x = 1):=rfl
 have e2 : hasR 1 x = if nK x = 1 then nN x else 0:=rfl
 have HU : Hid (uptoB most x = (decide (nK x = 1) && (decide (0 <= nN x) && decide (nN x <= most)))):=rfl
 rw [e1,e2] at C
 obtain ⟨k,hk⟩ : ∃ k,k = nK x:=⟨_,rfl⟩
 obtain ⟨n,hn⟩ : ∃ k,k = nN x:=⟨_,rfl⟩
 rw [<- hk,<- hn] at C HU
 rw [<- hn]
 clear hk hn hx e1 e2
 by_cases h1 : k = 1
 ·subst h1
  rw [if_pos rfl] at C
  by_cases h2 : 0 <= n
  ·have d2 : decide (0 <= n) = true := decide_eq_true h2
   by_cases h3 : n <= most
   ·have d3 : decide (n <= most) = true := decide_eq_true h3
    rw [d2,d3] at HU
    go_enter Tryz.func157,Tryz.ntmps157
    go_wp2_with (go_at_call 128;(with_reducible refine C.out.mono ?_);rintro e W1 ⟨rfl,hw1⟩;rw [hw1];clear hw1)
    go_ret2
    exact ⟨n,by rw [HU.out];rfl,fun _=>rfl,rfl⟩
   ·have d3 : decide (n <= most) = false := decide_eq_false h3
    rw [d2,d3] at HU
    go_enter Tryz.func157,Tryz.ntmps157
    go_wp2_with (go_at_call 128;(with_reducible refine C.out.mono ?_);rintro e W1 ⟨rfl,hw1⟩;rw [hw1];clear hw1)
    go_ret2
    exact ⟨n,by rw [HU.out];rfl,fun _=>rfl,rfl⟩
  ·have d2 : decide (0 <= n) = false := decide_eq_false h2
   rw [d2] at HU
   go_enter Tryz.func157,Tryz.ntmps157
   go_wp2_with (go_at_call 128;(with_reducible refine C.out.mono ?_);rintro e W1 ⟨rfl,hw1⟩;rw [hw1];clear hw1)
   go_ret2
   exact ⟨n,by rw [HU.out];rfl,fun _=>rfl,rfl⟩
 ·rw [if_neg h1, decide_eq_false h1] at C
  rw [decide_eq_false h1,Bool.false_and] at HU
  clear h1
  go_enter Tryz.func157,Tryz.ntmps157
  go_wp2_with (go_at_call 128;(with_reducible refine C.out.mono ?_);rintro e W1 ⟨rfl,hw1⟩;rw [hw1];clear hw1)
  go_ret2
  exact ⟨0,by rw [HU.out];rfl,fun h=>(by rw [HU.out] at h;cases h),rfl⟩
theorem unil (w : World) : URow w none 0 0 []:=⟨rfl,Nat.le_refl _,Nat.zero_le _,fun _=>rfl,fun z h=>(by cases h),.inl rfl⟩
def kz (k : IntKind) (l : List Int) : List Value:=l.map (Value.int k)
theorem kz_append (k : IntKind) (a b : List Int) : kz k (a ++ b) = kz k a ++ kz k b:=by simp [kz]
theorem appK {P : Program} {w : World} {ops : Array Oper} {rest : List Oper} {o : Oper} {a : Act} {Q : Exit -> Act -> World -> Prop} (k : IntKind) (by_ : Nat) (hby8 : by_ <= 8) (hgd : o.guard = none) (s x : Operand) (t : TypeId) (ho : o.op = .call { callee:=.builtin .append,args:=#[s,x],argTypes:=#[t,t] })
  (base : Nat) (e : TypeId) (ht : P.underlying t = some (.slice e)) (hi : (P.info? e).map (fun i=>(i.zero,i.size,i.bytes)) = some (some (.int k 0),1,by_))
  (v : Value) (n : Nat) (l : List Int) (hs : a.eval s = v) (hown : w.ownsRow base e 1 v n (kz k l))
  (ad : Addr) (c : Nat) (d : Int) (hx : a.eval x = .slice (some ad) 1 c) (hd : w.cell? ad = some (.int k d)) (hsm : n <= 10000000) (hbase : base <= w.heap.size)
  (h : ∀ g cap w',w'.ownsRow base e 1 (.slice (some ⟨g,0,none⟩) (n + 1) cap) (n + 1) (kz k (l ++ [d])) -> w.grownBy w' v.ownBlock -> (v.ownBlock = some g \/ g = w.heap.size) -> g < w'.heap.size -> wpList P ops Q rest (a.put o.dst (.slice (some ⟨g,0,none⟩) (n + 1) cap)) w') :
  wpList P ops Q (o :: rest) a w:=by
 obtain ⟨i0,hi0,hz0,hz1,hz2⟩ : ∃ i0,P.info? e = some i0 /\ i0.zero = some (.int k 0) /\ i0.size = 1 /\ i0.bytes = by_:=by
  cases h : P.info? e with
  | none=>rw [h] at hi;cases hi
  | some i=>rw [h] at hi;simp at hi;exact ⟨i,rfl,hi.1,hi.2.1,hi.2.2⟩
 refine wpList_append_lies w hgd s x t ho base e i0 (.int k 0) 1 by_ ht hi0 hz0 hz1 hz2 rfl (by decide) v n (kz k l) hs hown ad 1 c [.int k d] hx rfl ?_ ?_ (by decide) (by unfold maxLen;omega) ?_ hbase w.heap.size rfl ?_
 ·intro j u hj
  match j,hj with
  | 0,hj=>simp at hj;subst hj;simpa [Addr.add] using hd
 ·intro u hu;simp at hu;subst hu;rfl
 ·have : (n + 1) * by_ <= 10000001 * 8 := Nat.mul_le_mul (by omega) hby8
  omega
 ·intro g cap w' h1 h2 h3 h4
  refine h g cap w' ?_ h2 h3 h4
  rw [kz_append];exact h1
theorem kz_get {k : IntKind} {l : List Int} {i : Nat} (h : i < l.length) : (kz k l)[i]? = some (.int k (l.getD i 0)):=by
 unfold kz
 rw [List.getElem?_map,List.getD_eq_getElem?_getD,List.getElem?_eq_getElem h];rfl
theorem all_take_one {p : Int -> Bool} {f : List Int} {q : Nat} (hq : q < f.length) : (f.take (q + 1)).all p = ((f.take q).all p && p (f.getD q 0)):=by
 rw [List.take_succ_eq_append_getElem hq,List.all_append,List.getD_eq_getElem?_getD,List.getElem?_eq_getElem hq];simp
theorem all_off {p : Int -> Bool} {f : List Int} {q : Nat} (hq : q < f.length) (h : p (f.getD q 0) = false) : f.all p = false:=by
 rw [List.all_eq_false]
 exact ⟨f.getD q 0,getD_in_f hq,by rw [h];decide⟩
theorem nmap_take {f : List Int} {q : Nat} (hq : q < f.length) : (f.take (q + 1)).map nN = (f.take q).map nN ++ [nN (f.getD q 0)]:=by
 rw [List.take_succ_eq_append_getElem hq,List.map_append,List.getD_eq_getElem?_getD,List.getElem?_eq_getElem hq];rfl
theorem pnumber_any (n : Int) (hn : Z64 n) (w : World) : Calls Tryz.prog 201 #[.int .i64 n] w fun e w'=>e = .returned (.int .u64 (wordR 1 n 0)) /\ w' = w:=by
 have C:=hid (fix_any n hn w)
 obtain ⟨x,hx⟩ : ∃ x,x = wordR 1 n 0:=⟨_,rfl⟩
 obtain ⟨b,hb⟩ : ∃ x,x = rightB 1 n 0:=⟨_,rfl⟩
 rw [<- hx,<- hb] at C
 rw [<- hx]
 clear hx hb hn
 go_enter Tryz.func201,Tryz.ntmps201
 go_wp2_with (go_at_call 182;(with_reducible refine C.out.mono ?_);rintro e W1 ⟨rfl,hw1⟩;rw [hw1];clear hw1)
 go_ret
 exact ⟨rfl,rfl⟩
def PFixPost (z : Int) (w : World) (e : Ending) (w' : World) : Prop:=∃ x,e = .returned (.tuple #[.int .u64 x,.bool (fixB z)]) /\ (fixB z = true -> x = wordR 1 z 0) /\ Below w.heap.size w w'
set_option maxHeartbeats 4000000 in
theorem pfixed_any (neg : Bool) (ao : Option Addr) (n cap : Nat) (l : List Nat) (w : World) (R : Row .u32 B32 w ao n cap l) (g : goodB neg l = true) :
  Calls Tryz.prog 159 #[.agg #[.bool neg,.slice ao n cap]] w (PFixPost (sgn neg (val B32 l)) w):=by
 have b0:=Ba w (.cells #[.bool neg,.slice ao n cap] 104)
 have C:=hid (to_any neg ao n cap l (w.alloc (.cells #[.bool neg,.slice ao n cap] 104)) (R.below b0) g)
 unfold ToPost at C
 have hx:=blk_new w #[.bool neg,.slice ao n cap] 104
 have c0 : (w.alloc (.cells #[.bool neg,.slice ao n cap] 104)).cell? ⟨w.heap.size,0,none⟩ = some (.bool neg):=blk_cell hx 0
 have c1 : (w.alloc (.cells #[.bool neg,.slice ao n cap] 104)).cell? ⟨w.heap.size,1,none⟩ = some (.slice ao n cap):=blk_cell hx 1
 have HB:=hid b0
 obtain ⟨z,hz⟩ : ∃ z,z = sgn neg (val B32 l):=⟨_,rfl⟩
 rw [<- hz] at C ⊢
 clear R g hx b0 hz
 by_cases hf : fits z = true
 ·rw [hf] at C
  have hz64 : Z64 z:=by have:=of_decide_eq_true hf;unfold Z64;omega
  have CF : Hid (∀ W,Calls Tryz.prog 182 #[.int .i64 z] W fun e w'=>e = .returned (.tuple #[.int .u64 (wordR 1 z 0),.bool (fixB z)]) /\ w' = W):=fun W=>fix_any z hz64 W
  obtain ⟨x,hx⟩ : ∃ x,x = wordR 1 z 0:=⟨_,rfl⟩
  obtain ⟨b,hb⟩ : ∃ b,b = fixB z:=⟨_,rfl⟩
  rw [<- hx,<- hb] at CF
  have HX:=hid hx
  have HBB:=hid hb
  clear hf hz64 hx hb
  go_enter Tryz.func159,Tryz.ntmps159
  go_wp2_with (first
   | (go_at_call 181;(with_reducible refine C.out.mono ?_);rintro e W1 ⟨v,rfl,hv,b1⟩;rw [hv rfl];have HB1:=hid (Bt HB.out b1);have C2:=hid (CF.out W1);clear b1 hv)
   | (go_at_call 182;(with_reducible refine C2.out.mono ?_);rintro e W2 ⟨rfl,hw2⟩;rw [hw2];clear hw2))
  go_ret2
  exact ⟨x,by rw [HBB.out];rfl,fun _=>HX.out,HB1.out⟩
 ·have hf' : fits z = false := by simpa using hf
  rw [hf'] at C
  have HFX : Hid (fixB z = false):=by
   unfold Hid fixB
   have:=of_decide_eq_false hf'
   by_cases k1 : -1152921504606846976 <= z
   ·rw [decide_eq_true k1,decide_eq_false (by omega)];rfl
   ·rw [decide_eq_false k1];rfl
  clear hf hf'
  go_enter Tryz.func159,Tryz.ntmps159
  go_wp2_with (go_at_call 181;(with_reducible refine C.out.mono ?_);rintro e W1 ⟨v,rfl,hv,b1⟩;have HB1:=hid (Bt HB.out b1);clear b1 hv)
  go_ret2
  exact ⟨_,by rw [HFX.out];rfl,fun h=>(by rw [HFX.out] at h;cases h),HB1.out⟩
theorem neg_sg (c : Bool) (v : Nat) : (c && decide (v ≠ 0)) = decide (sgn (c && decide (v ≠ 0)) v < 0):=by
 cases c
 ·simp [sgn]
 ·by_cases h0 : v = 0
  ·subst h0;rfl
  ·have : decide (v ≠ 0) = true := decide_eq_true h0
   rw [this]
   symm
   refine decide_eq_true ?_
   simp [sgn]
   omega
theorem ptxt_parse (t : ByteArray) (ht : t.size <= 5000) (hp : printedB t = true) (w : World) : Calls Tryz.prog 197 #[.string t,.int .i64 10] w fun e w'=>∃ neg ao n cap l,e = .returned (.tuple #[.agg #[.bool neg,.slice ao n cap],.int .i64 0]) /\ Row .u32 B32 w' ao n cap l /\ goodB neg l = true /\ sgn neg (val B32 l) = txZ t /\ neg = decide (txZ t < 0) /\ l = mg (txZ t).natAbs /\ n <= 40 /\ Below w.heap.size w w':=by
 refine (parse_any t 10 w (by unfold maxLen;omega)).mono ?_
 rintro e w' ⟨x,en,rfl,hb,h⟩
 unfold printedB at hp
 simp only [Bool.and_eq_true,decide_eq_true_eq] at hp
 obtain ⟨⟨p1,p2⟩,p3⟩:=hp
 rcases h with ⟨h1,_⟩ | ⟨_,h2,_⟩ | ⟨_,_,h⟩
 ·exact absurd ⟨by omega,by omega⟩ h1
 ·rw [p1] at h2;cases h2
 ·rcases ans_int h with ⟨a1, a2, ao, n, cap, l, rfl, R, g, hvl, hn⟩ | ⟨a1, _⟩
  ·subst a2
   have hv' : val B32 l = hv 10 (cutS (bs t)).2:=hvl
   refine ⟨_,ao,n,cap,l,rfl,R,g,?_,?_,?_,hn,hb⟩
   ·unfold txZ;rw [hv'];rfl
   ·exact neg_sg _ _
   ·refine mg_is R.dg (goodB_tr g) ?_
    unfold txZ;rw [show ∀ (b : Bool) (v : Nat),(sgn b v).natAbs = v from fun b v=>by cases b <;> simp [sgn]];exact hv'
  ·exact absurd p2 (by unfold Big at a1;show ¬ hv 10 (cutS (bs t)).2 < B32 ^ 40;exact Nat.not_lt.2 a1)
set_option maxHeartbeats 4000000 in
theorem plen_int (t : ByteArray) (ht : t.size <= 5000) (hp : printedB t = true) (w : World) : Calls Tryz.prog 172 #[.string t] w fun e w'=>e = .returned (.int .i64 (if fixB (txZ t) = true then 0 else 2 + (((mg (txZ t).natAbs).length : Nat) : Int))) /\ Below w.heap.size w w':=by
 have C:=hid (ptxt_parse t ht hp w)
 have CF : Hid (∀ (neg : Bool) (ao : Option Addr) (n cap : Nat) (l : List Nat) (W : World),Row .u32 B32 W ao n cap l -> goodB neg l = true -> Calls Tryz.prog 159 #[.agg #[.bool neg,.slice ao n cap]] W (PFixPost (sgn neg (val B32 l)) W)):=fun neg ao n cap l W R g=>pfixed_any neg ao n cap l W R g
 clear ht hp
 cases hf : fixB (txZ t)
 ·have HF := hid hf
  clear hf
  go_enter Tryz.func172,Tryz.ntmps172
  go_wp2_with (first
   | (go_at_call 197;(with_reducible refine C.out.mono ?_);rintro e W1 ⟨neg,ao,n,cap,l,rfl,R,g,hz,hng,hl,hn40,b1⟩;have hlen:=R.len;have hfits:=R.fits;have hmost:=R.most;have HBX:=hid (Ba W1 (.cells #[.bool neg,.slice ao n cap] 104));have hx:=blk_new W1 #[.bool neg,.slice ao n cap] 104;have HX:=hid hx;have c0 : (W1.alloc (.cells #[.bool neg,.slice ao n cap] 104)).cell? ⟨W1.heap.size,0,none⟩ = some (.bool neg):=blk_cell hx 0;have c1 : (W1.alloc (.cells #[.bool neg,.slice ao n cap] 104)).cell? ⟨W1.heap.size,1,none⟩ = some (.slice ao n cap):=blk_cell hx 1;have C2:=hid (CF.out neg ao n cap l _ (R.below HBX.out) g);rw [hz] at C2;unfold PFixPost at C2;rw [HF.out] at C2;have HB1:=hid (Bt b1 HBX.out);have HL:=hid (show n = (mg (txZ t).natAbs).length by rw [<- hl];exact hlen.symm);clear b1 R g hz hng hl hlen hx)
   | (go_at_call 159;(with_reducible refine C2.out.mono ?_);rintro e W2 ⟨x,rfl,_,b2⟩;have HB2:=hid (Bt HB1.out b2);have d1 : W2.cell? ⟨W1.heap.size,1,none⟩ = some (.slice ao n cap):=blk_cell ((b2.block W1.heap.size (by rw [size_alloc];omega)).trans HX.out) 1;unfold maxLen at hmost;clear b2))
  go_ret
  refine ⟨?_,HB2.out⟩
  rw [<- HL.out]
  rfl
 ·have HF := hid hf
  clear hf
  go_enter Tryz.func172,Tryz.ntmps172
  go_wp2_with (first
   | (go_at_call 197;(with_reducible refine C.out.mono ?_);rintro e W1 ⟨neg,ao,n,cap,l,rfl,R,g,hz,hng,hl,hn40,b1⟩;have HBX:=hid (Ba W1 (.cells #[.bool neg,.slice ao n cap] 104));have hx:=blk_new W1 #[.bool neg,.slice ao n cap] 104;have c0 : (W1.alloc (.cells #[.bool neg,.slice ao n cap] 104)).cell? ⟨W1.heap.size,0,none⟩ = some (.bool neg):=blk_cell hx 0;have c1 : (W1.alloc (.cells #[.bool neg,.slice ao n cap] 104)).cell? ⟨W1.heap.size,1,none⟩ = some (.slice ao n cap):=blk_cell hx 1;have C2:=hid (CF.out neg ao n cap l _ (R.below HBX.out) g);rw [hz] at C2;unfold PFixPost at C2;rw [HF.out] at C2;have HB1:=hid (Bt b1 HBX.out);clear b1 R g hz hng hl hx)
   | (go_at_call 159;(with_reducible refine C2.out.mono ?_);rintro e W2 ⟨x,rfl,_,b2⟩;have HB2:=hid (Bt HB1.out b2);clear b2))
  go_ret
  exact ⟨rfl,HB2.out⟩
end Go.Proofs.YticimejfjjmikaaGreatDoor
