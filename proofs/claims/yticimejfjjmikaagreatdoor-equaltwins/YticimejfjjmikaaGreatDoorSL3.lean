import Derived.Test.YticimejfjjmikaaGreatDoorSG6
import Derived.Test.YticimejfjjmikaaGreatDoorX3
import Derived.Test.YticimejfjjmikaaGreatDoorSG1
import Derived.Laws.Cover4
import Derived.Laws.BytesArg
import Derived.Test.YticimejfjjmikaaGreatDoorST6
import Derived.Test.YticimejfjjmikaaGreatDoorW16
import Derived.Test.YticimejfjjmikaaGreatDoorW20
set_option linter.unusedVariables false
set_option linter.unusedSimpArgs false
namespace Go.Proofs.YticimejfjjmikaaGreatDoor
open Go.RowKit
theorem x4 (k n : Int) (hk : k ≠ 8) : isHd (zj k n 0) = false:=by
 unfold isHd
 refine decide_eq_false (fun e=>?_)
 cases h : zo k n 0
 ·have e0 : zj k n 0 = 0 := by unfold zj; rw [h]; rfl
  rw [e0] at e
  revert e;decide
 ·have := (say h hk rfl).1
  unfold nK at this
  rw [this] at e
  exact hk e
theorem zky (ls : List ByteArray) (d : Nd) : isHd (yv ls d) = false:=by
 unfold yv
 repeat' split
 all_goals exact x4 _ _ (by decide)
theorem zfs {nm : List ByteArray} {a : Nat} {cs : List Nd} : ∀ q,q <= cs.length -> ∀ z∈(putS nm a (cs.take q)).ws,isHd z = false
 | 0,_=>by simp [putS]
 | q + 1, h => by
  rw [qe (by omega)]
  have ih:=zfs (nm:=nm) (a:=a) (cs:=cs) q (by omega)
  unfold zaf
  split
  ·intro z hz
   rcases List.mem_append.1 hz with hz | hz
   ·exact ih z hz
   ·obtain rfl:=List.mem_singleton.1 hz;exact zky _ _
  ·intro z hz
   rcases List.mem_append.1 hz with hz | hz
   ·exact ih z hz
   ·obtain rfl:=List.mem_singleton.1 hz;exact x4 _ _ (by decide)
theorem zvh : isHd 0 = false:=by decide
theorem zkz {ws : List Int} (h : ∀ z∈ws,isHd z = false) (i : Nat) : isHd (ws.getD i 0) = false:=by
 by_cases hi : i < ws.length
 ·exact h _ (jq hi)
 ·rw [List.getD_eq_getElem?_getD,List.getElem?_eq_none (by omega)];exact zvh
theorem zft (d : Nd) {ws : List Int} (h : ∀ z∈ws,isHd z = false) : ∀ z∈zy d ws,isHd z = false:=by
 intro z hz
 unfold zy at hz
 split at hz
 ·unfold bigL at hz
  rcases List.mem_cons.1 hz with rfl | hz
  ·exact x4 _ _ (by decide)
  ·obtain ⟨x,_,rfl⟩:=List.mem_map.1 hz;exact x4 _ _ (by decide)
 split at hz
 ·obtain ⟨x,_,rfl⟩:=List.mem_map.1 hz;exact x4 _ _ (by decide)
 split at hz
 ·unfold kj at hz
  obtain ⟨x,_,rfl⟩:=List.mem_map.1 hz;exact x4 _ _ (by decide)
 ·obtain ⟨x,_,rfl⟩:=List.mem_map.1 hz;exact zkz h _
def zz (ws : List Int) (cs : List Nd) : List Ob:=(cs.filter (fun d=>decide (0 < zm d))).map (fun d=>⟨zl d,zy d ws⟩)
theorem zbn (d : Nd) : 1 <= zl d /\ zl d <= 5:=by
 unfold zl
 repeat' split
 all_goals omega
theorem zbo {ws : List Int} {cs : List Nd} {q : Nat} (h : q < cs.length) : zz ws (cs.take (q + 1)) = zz ws (cs.take q) ++ (if 0 < zm (cs.getD q default) then [⟨zl (cs.getD q default),zy (cs.getD q default) ws⟩] else []):=by
 have e : cs.getD q default = cs[q]:=by rw [List.getD_eq_getElem?_getD,List.getElem?_eq_getElem h];rfl
 unfold zz
 rw [List.take_succ_eq_append_getElem h,List.filter_append,List.map_append,e]
 congr 1
 by_cases hz : 0 < zm cs[q]
 ·rw [if_pos hz,List.filter_cons_of_pos (by exact decide_eq_true hz)];rfl
 ·rw [if_neg hz,List.filter_cons_of_neg (by rw [decide_eq_false hz];decide)];rfl
theorem v6 {ws : List Int} {cs : List Nd} (hs : cs.all (fun d=>decide (0 <= zm d)) = true) : ∀ q,q <= cs.length -> ((zg (zz ws (cs.take q)) : Nat) : Int) = sumN (cs.take q)
 | 0,_=>by simp [zz,zg,sumN]
 | q + 1, h => by
  have hq : q < cs.length:=by omega
  have ih:=v6 (ws:=ws) hs q (by omega)
  have hm : cs.getD q default∈cs:=by rw [List.getD_eq_getElem?_getD,List.getElem?_eq_getElem hq];exact List.getElem_mem _
  have h0:=of_decide_eq_true (List.all_eq_true.1 hs _ hm)
  rw [zbo hq,vc hq,ju]
  by_cases hz : 0 < zm (cs.getD q default)
  ·have := gz (ws := ws) hz
   rw [if_pos hz]
   show ((zg (zz ws (cs.take q)) + (1 + (zy (cs.getD q default) ws).length + 0) : Nat) : Int) = _
   omega
  ·rw [if_neg hz]
   show ((zg (zz ws (cs.take q)) + 0 : Nat) : Int) = _
   omega
theorem zvi {N : Int} {os : List Ob} {ws : List Int} {cs : List Nd} (hw : ∀ z∈ws,isHd z = false) (hs : cs.all (fun d=>decide (0 <= zm d)) = true) (hr : ((zg os : Nat) : Int) + sumN cs <= N) : ∀ q,q <= cs.length -> putO N ws os (cs.take q) = os ++ zz ws (cs.take q)
 | 0,_=>by simp [putO,zz]
 | q + 1, h => by
  have hq : q < cs.length:=by omega
  have ih:=zvi (N:=N) (os:=os) hw hs hr q (by omega)
  have hu:=v6 (ws:=ws) hs q (by omega)
  have hsum:=zdd hs (q + 1)
  rw [vc hq] at hsum
  rw [zku hq,zbo hq,ih]
  by_cases hz : 0 < zm (cs.getD q default)
  ·rw [if_pos hz, if_pos hz]
   have hk:=zbn (cs.getD q default)
   have hl:=gz (ws:=ws) hz
   have hany : (zy (cs.getD q default) ws).any isHd = false:=by
    rw [List.any_eq_false]
    intro z hz'
    rw [zft _ hw z hz'];decide
   have hal : (yg (os ++ zz ws (cs.take q)) N (zl (cs.getD q default)) (zy (cs.getD q default) ws)).2 = 0:=by
    unfold yg
    rw [if_neg (by omega),hany,if_neg (by decide),if_neg (by rw [ju];omega)]
   unfold yt
   rw [if_pos hal,List.append_assoc]
  ·rw [if_neg hz,if_neg hz,List.append_nil]
section
variable {N : Int} {os : List Ob} {nm : List ByteArray} {cs : List Nd}
structure g6 (N : Int) (os : List Ob) (nm : List ByteArray) (cs : List Nd) : Prop where
 nd : ∀ d∈cs,qq cs.length d = true
 cn : ∀ d∈cs,CNd d
 sz : cs.all (fun d=>decide (0 <= zm d)) = true
 room : ((zg os : Nat) : Int) + sumN cs <= N
 most : N <= 4194304
 nms : nm.length + cs.length <= 1000000000
theorem g6.objs (h : g6 N os nm cs) : putO N (putS nm (zg os) cs).ws os cs = os ++ zz (putS nm (zg os) cs).ws cs:=by
 have hw:=zfs (nm:=nm) (a:=zg os) (cs:=cs) cs.length (Nat.le_refl _)
 rw [List.take_length] at hw
 have:=zvi (N:=N) (os:=os) hw h.sz h.room cs.length (Nat.le_refl _)
 rw [List.take_length] at this
 exact this
theorem g6.used (h : g6 N os nm cs) : ((zg (os ++ zz (putS nm (zg os) cs).ws cs) : Nat) : Int) = (zg os : Nat) + sumN cs /\ zg (os ++ zz (putS nm (zg os) cs).ws cs) <= 4194304:=by
 have:=v6 (ws:=(putS nm (zg os) cs).ws) h.sz cs.length (Nat.le_refl _)
 rw [List.take_length] at this
 have hr:=h.room
 have hm:=h.most
 rw [ju]
 omega
theorem g6.place (h : g6 N os nm cs) {i : Nat} (hi : i < cs.length) (hz : 0 < zm (cs.getD i default)) :
  ∃ k,yh (os ++ zz (putS nm (zg os) cs).ws cs) ((putS nm (zg os) cs).ws.getD i 0) = some k /\ (os ++ zz (putS nm (zg os) cs).ws cs).getD k default = ⟨zl (cs.getD i default),zy (cs.getD i default) (putS nm (zg os) cs).ws⟩ /\ (putS nm (zg os) cs).ws.getD i 0 = zj 2 ((putS nm (zg os) (cs.take i)).at_ : Nat) 0 /\ ((putS nm (zg os) (cs.take i)).at_ : Int) = (zg os : Nat) + sumN (cs.take i) /\ k = (os ++ zz (putS nm (zg os) cs).ws (cs.take i)).length:=by
 have hu:=h.used.2
 have hw:=zkx (nm:=nm) (a:=zg os) hi
 rw [if_neg (by omega)] at hw
 have hat:=zik (nm:=nm) (a:=zg os) h.sz i (by omega)
 generalize hws : (putS nm (zg os) cs).ws = ws at *
 have hou:=v6 (ws:=ws) h.sz i (by omega)
 have hsplit : ∃ rest,zz ws cs = zz ws (cs.take i) ++ (⟨zl (cs.getD i default),zy (cs.getD i default) ws⟩ :: rest):=by
  have e1 : cs = cs.take (i + 1) ++ cs.drop (i + 1):=(List.take_append_drop _ _).symm
  refine ⟨zz ws (cs.drop (i + 1)),?_⟩
  conv=>lhs;rw [e1]
  have e2 : ∀ x y : List Nd,zz ws (x ++ y) = zz ws x ++ zz ws y:=fun x y=>by unfold zz;rw [List.filter_append,List.map_append]
  rw [e2,zbo hi,if_pos hz,List.append_assoc];rfl
 obtain ⟨rest,hsp⟩:=hsplit
 have hk : (os ++ zz ws (cs.take i)).length < (os ++ zz ws cs).length:=by
  rw [hsp,<- List.append_assoc];simp
 have hatk : atO (os ++ zz ws cs) (os ++ zz ws (cs.take i)).length = (putS nm (zg os) (cs.take i)).at_:=by
  unfold atO
  rw [hsp,<- List.append_assoc,List.take_left,ju]
  omega
 refine ⟨(os ++ zz ws (cs.take i)).length,?_,?_,hw,hat,rfl⟩
 ·rw [hw, <- hatk]
  exact znx hk (by omega)
 ·rw [hsp,<- List.append_assoc,List.getD_eq_getElem?_getD,List.getElem?_append_right (Nat.le_refl _),Nat.sub_self];rfl
theorem zqr (ls : List ByteArray) (d : Nd) (hk : d.kind = 1 \/ d.kind = 2 \/ d.kind = 4 \/ d.kind = 6 \/ d.kind = 10 \/ d.kind = 11 \/ d.kind = 3) : nK (yv ls d) ≠ 2:=by
 have key : ∀ k n : Int,k ≠ 8 -> k ≠ 2 -> nK (zj k n 0) ≠ 2:=fun k n h8 h2=>by
  cases h : zo k n 0
  ·have e0 : zj k n 0 = 0 := by unfold zj; rw [h]; rfl
   rw [e0];exact ztu
  ·rw [(say h h8 rfl).1];exact h2
 unfold yv
 repeat' split
 all_goals exact key _ _ (by decide) (by decide)
theorem g6.apart (h : g6 N os nm cs) {i j : Nat} (hi : i < cs.length) (hj : j < cs.length) (e : (putS nm (zg os) cs).ws.getD i 0 = (putS nm (zg os) cs).ws.getD j 0) : i = j \/ yi (cs.getD i default).kind = true:=by
 have mem : ∀ {i},i < cs.length -> cs.getD i default∈cs:=fun {i} hi=>by rw [List.getD_eq_getElem?_getD,List.getElem?_eq_getElem hi];exact List.getElem_mem _
 have pos : ∀ {i},i < cs.length -> 0 <= zm (cs.getD i default):=fun {i} hi=>of_decide_eq_true (List.all_eq_true.1 h.sz _ (mem hi))
 have kin : ∀ {i},i < cs.length -> zm (cs.getD i default) = 0 -> (cs.getD i default).kind = 1 \/ (cs.getD i default).kind = 2 \/ (cs.getD i default).kind = 4 \/ (cs.getD i default).kind = 6 \/ (cs.getD i default).kind = 10 \/ (cs.getD i default).kind = 11 \/ (cs.getD i default).kind = 3:=fun {i} hi hz=>by
  rcases zkv (h.cn _ (mem hi)) hz with e | e | e | e | e | e | ⟨e,_⟩ <;> omega
 by_cases hzi : zm (cs.getD i default) = 0
 ·right
  unfold yi
  rcases kin hi hzi with e | e | e | e | e | e | e <;> rw [e] <;> decide
 ·left
  have hpi:=pos hi
  obtain ⟨k,hf,_,hwi,hai,_⟩:=h.place hi (by omega)
  by_cases hzj : zm (cs.getD j default) = 0
  ·have hwj := zkx (nm := nm) (a := zg os) hj
   rw [if_pos hzj] at hwj
   have:=zgo hf
   rw [e,hwj] at this
   exact absurd this (zqr _ _ (kin hj hzj))
  ·have hpj := pos hj
   obtain ⟨k',hf',_,hwj,haj,_⟩:=h.place hj (by omega)
   have s1:=zdd h.sz i
   have s2:=zdd h.sz j
   have hm:=h.most
   have hr:=h.room
   rw [hwi,hwj] at e
   have e2 : ((putS nm (zg os) (cs.take i)).at_ : Int) = ((putS nm (zg os) (cs.take j)).at_ : Int):=by
    have a1:=(say2 (n:=(putS nm (zg os) (cs.take i)).at_) (by omega)).2
    have a2:=(say2 (n:=(putS nm (zg os) (cs.take j)).at_) (by omega)).2
    rw [e] at a1
    exact a1.symm.trans a2
   have mono : ∀ p q : Nat,p < q -> q <= cs.length -> 0 < zm (cs.getD p default) -> sumN (cs.take p) < sumN (cs.take q):=fun p q hpq hq hz=>by
    have e1 : cs.take q = cs.take (p + 1) ++ (cs.take q).drop (p + 1):=by
     conv=>lhs;rw [<- List.take_append_drop (p + 1) (cs.take q)]
     rw [List.take_take,Nat.min_eq_left (by omega)]
    rw [e1,zop,vc (by omega)]
    have : 0 <= sumN ((cs.take q).drop (p + 1)):=vz (fun d hd=>of_decide_eq_true (List.all_eq_true.1 h.sz _ (List.mem_of_mem_take (List.mem_of_mem_drop hd))))
    omega
   rcases Nat.lt_trichotomy i j with hlt | hlt | hlt
   ·have:=mono i j hlt (by omega) (by omega);omega
   ·exact hlt
   ·have:=mono j i hlt (by omega) (by omega);omega
end
def dd : List Int -> List Int
 | []=>[]
 | x :: l=>if x∈l then dd l else x :: dd l
theorem zhb : ∀ {l : List Int} {x : Int},x∈dd l ↔ x∈l
 | [],x=>Iff.rfl
 | y :: l, x => by
  unfold dd
  by_cases h : y∈l
  ·rw [if_pos h, zhb, List.mem_cons]
   constructor
   ·exact .inr
   ·rintro (rfl | e)
    ·exact h
    ·exact e
  ·rw [if_neg h,List.mem_cons,List.mem_cons,zhb]
theorem zdx : ∀ (l : List Int),(dd l).Nodup
 | []=>List.nodup_nil
 | y :: l=>by
  unfold dd
  by_cases h : y∈l
  ·rw [if_pos h];exact zdx l
  ·rw [if_neg h];exact List.nodup_cons.2 ⟨fun e=>h (zhb.1 e),zdx l⟩
theorem zcp1 {d : Nd} (h : okD d = true) (ha : yi d.kind = true) : d.kids = []:=by
 unfold okD at h
 rw [Bool.and_eq_true] at h
 have hk : d.kind = 1 \/ d.kind = 2 \/ d.kind = 3 \/ d.kind = 4 \/ d.kind = 6 \/ d.kind = 10 \/ d.kind = 11:=by
  unfold yi at ha
  simp only [Bool.or_eq_true,decide_eq_true_eq] at ha
  omega
 refine zvg h.2 ?_ ?_ ?_ ?_ ?_ <;> omega
section
variable {D Dc : Int -> Nd} {roots rootsc W Wc rs rc : List Int} {ns nc : List Nd} {ψ : Int -> Int} {f : Nat}
theorem zys (T : Told D roots W ns rs) (Tc : Told Dc rootsc Wc nc rc) (hr : roots = rootsc.map ψ) (hok : ∀ x,okD (D x) = true)
  (hψ : ∀ x,Rch Dc rootsc x -> yx (D (ψ x)) (Dc x) /\ (D (ψ x)).kids = (Dc x).kids.map ψ)
  (hi : ∀ x y,Rch Dc rootsc x -> Rch Dc rootsc y -> ψ x = ψ y -> x = y \/ yi (Dc x).kind = true)
  (hb : ∀ x,Rch Dc rootsc x -> yi (Dc x).kind = true -> (Dc x).kids = []) (F : Fine ns rs f) (Fc : Fine nc rc f) : yj ns rs f = yj nc rc f:=by
 have hin : ∀ i,i < ns.length -> W.getD i 0∈W:=fun i hi=>jq (by rw [T.len];exact hi)
 have hc : ∀ x∈dd W,∀ y∈(D x).kids,y∈dd W:=fun x hx y hy=>by
  obtain ⟨i,hi,rfl⟩:=zpu (zhb.1 hx)
  rw [T.len] at hi
  rw [<- T.kids i hi] at hy
  obtain ⟨k,hk,rfl⟩:=List.mem_map.1 hy
  have:=T.kr i hi k hk
  exact zhb.2 (hin _ (by omega))
 have hrt : ∀ x∈roots,x∈dd W:=fun x hx=>by
  rw [<- T.rts] at hx
  obtain ⟨k,hk,rfl⟩:=List.mem_map.1 hx
  have:=T.rr k hk
  exact zhb.2 (hin _ (by omega))
 have TM:=zbe1 (D:=D) (roots:=roots) (zdx W) hc hrt
 have hg:=TM.good (fun x _=>hok x)
 have hn:=zxi (D:=D) (zdx W)
 have e1 : yj (mkG D (dd W)) (roots.map (fun y=>(((dd W).idxOf y : Nat) : Int))) f = yj ns rs f:=by
  have TM' : Told D (roots.map id) (dd W) (mkG D (dd W)) (roots.map (fun y=>(((dd W).idxOf y : Nat) : Int))):=by rw [List.map_id];exact TM
  exact zgk T TM' hn (fun x _=>⟨⟨rfl,rfl,rfl⟩,(List.map_id _).symm⟩) (fun x y _ _ e=>.inl e) (fun x _ ha=>zcp1 (hok x) ha) F hg
 have e2 : yj (mkG D (dd W)) (roots.map (fun y=>(((dd W).idxOf y : Nat) : Int))) f = yj nc rc f:=by
  rw [hr] at TM hg ⊢
  exact zgk Tc TM hn hψ hi hb Fc hg
 rw [<- e1,e2]
end
section
variable {N : Int} {os : List Ob} {nm : List ByteArray} {cs ns : List Nd} {crs rs W : List Int} {f : Nat}
abbrev pW (nm : List ByteArray) (os : List Ob) (cs : List Nd) (x : Int) : Int:=(putS nm (zg os) cs).ws.getD x.toNat 0
abbrev pO (nm : List ByteArray) (os : List Ob) (cs : List Nd) : List Ob:=os ++ zz (putS nm (zg os) cs).ws cs
abbrev pR (nm : List ByteArray) (os : List Ob) (cs : List Nd) (crs : List Int) : List Int:=crs.map (pW nm os cs)
theorem g6.mem (h : g6 N os nm cs) {i : Nat} (hi : i < cs.length) : cs.getD i default∈cs /\ 0 <= zm (cs.getD i default):=by
 have hm : cs.getD i default∈cs:=by rw [List.getD_eq_getElem?_getD,List.getElem?_eq_getElem hi];exact List.getElem_mem _
 exact ⟨hm,of_decide_eq_true (List.all_eq_true.1 h.sz _ hm)⟩
end
set_option maxRecDepth 100000
def zna (d : Nd) : Value:=.agg #[.int .i64 d.kind,.int .i64 d.num,.string d.text,.slice none 0 0]
def NZ (g : Nat) (w : World) : Prop:=w.heap[g]? = some (.cells #[.int .i64 0,.int .i64 0,.string ⟨#[]⟩,.slice none 0 0] 54 (0,0))
theorem NZ.c {g : Nat} {w : World} (h : NZ g w) : w.cell? ⟨g,0,none⟩ = some (.int .i64 0) /\ w.cell? ⟨g,1,none⟩ = some (.int .i64 0) /\ w.cell? ⟨g,2,none⟩ = some (.string ⟨#[]⟩) /\ w.cell? ⟨g,3,none⟩ = some (.slice none 0 0) /\ w.frozen? ⟨g,0,none⟩ = false /\ w.frozen? ⟨g,1,none⟩ = false /\ w.frozen? ⟨g,2,none⟩ = false /\ w.frozen? ⟨g,3,none⟩ = false :=
 ⟨za h 0,za h 1,za h 2,za h 3,zc h 0,zc h 1,zc h 2,zc h 3⟩
theorem NZ.new (w : World) : NZ w.heap.size (w.alloc (.cells #[.int .i64 0,.int .i64 0,.string ⟨#[]⟩,.slice none 0 0] 54)):=ze _ _ _
theorem NZ.on {g : Nat} {w w' : World} (h : NZ g w) (hb : Below w.heap.size w w') : NZ g w':=(hb.block g (Array.getElem?_eq_some_iff.1 h).1).trans h
theorem zyt (w : World) : Calls Tryz.prog 127 #[] w fun e w'=>e = .returned (zna vd) /\ Below w.heap.size w w':=by
 have hst:=ze w #[.int .i64 11,.int .i64 0,.string ⟨#[]⟩,.slice none 0 0] 54
 have t0:=za hst 0
 have t1:=za hst 1
 have t2:=za hst 2
 have t3:=za hst 3
 have HB:=hid (Ba w (.cells #[.int .i64 11,.int .i64 0,.string ⟨#[]⟩,.slice none 0 0] 54))
 clear hst
 go_enter Tryz.func127,Tryz.ntmps127
 go_wp2_with fail
 (try simp only [Exit.inBlock,Exit.then]);refine bodyPost_ret (by simp [results,Tryz.results127,go_sem,t0,t1,t2,t3];rfl) rfl ?_
 exact ⟨rfl,HB.out⟩
def zgc (most x : Int) : Bool:=decide (nK x = 1) && (decide (0 <= nN x) && decide (nN x <= most))
theorem zor (most x : Int) (hx : U64 x) (w : World) : Calls Tryz.prog 157 #[.int .i64 most,.int .u64 x] w fun e w'=>∃ n,e = .returned (.tuple #[.int .i64 n,.bool (zgc most x)]) /\ (zgc most x = true -> n = nN x) /\ w' = w:=by
 have C:=hid (zbs1 x hx w)
 have e1 : isR 1 x = decide (nK x = 1):=rfl
 have e2 : hasR 1 x = if nK x = 1 then nN x else 0:=rfl
 have HU : Hid (zgc most x = (decide (nK x = 1) && (decide (0 <= nN x) && decide (nN x <= most)))):=rfl
 rw [e1,e2] at C
 obtain ⟨k,hk⟩ : ∃ k,k = nK x:=⟨_,rfl⟩
 obtain ⟨n,hn⟩ : ∃ k,k = nN x:=⟨_,rfl⟩
 rw [<- hk,<- hn] at C HU
 rw [<- hn]
 clear hk hn hx e1 e2
 by_cases h1 : k = 1
 ·subst h1
  rw [if_pos rfl] at C
  by_cases h2 : 0 <= n
  ·have d2 : decide (0 <= n) = true := decide_eq_true h2
   by_cases h3 : n <= most
   ·have d3 : decide (n <= most) = true := decide_eq_true h3
    rw [d2,d3] at HU
    go_enter Tryz.func157,Tryz.ntmps157
    go_wp2_with (go_at_call 128;(with_reducible refine C.out.mono ?_);rintro e W1 ⟨rfl,hw1⟩;rw [hw1];clear hw1)
    go_ret2
    exact ⟨n,by rw [HU.out];rfl,fun _=>rfl,rfl⟩
   ·have d3 : decide (n <= most) = false := decide_eq_false h3
    rw [d2,d3] at HU
    go_enter Tryz.func157,Tryz.ntmps157
    go_wp2_with (go_at_call 128;(with_reducible refine C.out.mono ?_);rintro e W1 ⟨rfl,hw1⟩;rw [hw1];clear hw1)
    go_ret2
    exact ⟨n,by rw [HU.out];rfl,fun _=>rfl,rfl⟩
  ·have d2 : decide (0 <= n) = false := decide_eq_false h2
   rw [d2] at HU
   go_enter Tryz.func157,Tryz.ntmps157
   go_wp2_with (go_at_call 128;(with_reducible refine C.out.mono ?_);rintro e W1 ⟨rfl,hw1⟩;rw [hw1];clear hw1)
   go_ret2
   exact ⟨n,by rw [HU.out];rfl,fun _=>rfl,rfl⟩
 ·rw [if_neg h1, decide_eq_false h1] at C
  rw [decide_eq_false h1,Bool.false_and] at HU
  clear h1
  go_enter Tryz.func157,Tryz.ntmps157
  go_wp2_with (go_at_call 128;(with_reducible refine C.out.mono ?_);rintro e W1 ⟨rfl,hw1⟩;rw [hw1];clear hw1)
  go_ret2
  exact ⟨0,by rw [HU.out];rfl,fun h=>(by rw [HU.out] at h;cases h),rfl⟩
theorem unil (w : World) : URow w none 0 0 []:=⟨rfl,Nat.le_refl _,Nat.zero_le _,fun _=>rfl,fun z h=>(by cases h),.inl rfl⟩
def kz (k : IntKind) (l : List Int) : List Value:=l.map (Value.int k)
theorem zvj (k : IntKind) (a b : List Int) : kz k (a ++ b) = kz k a ++ kz k b:=by simp [kz]
theorem appK {P : Program} {w : World} {ops : Array Oper} {rest : List Oper} {o : Oper} {a : Act} {Q : Exit -> Act -> World -> Prop} (k : IntKind) (by_ : Nat) (hby8 : by_ <= 8) (hgd : o.guard = none) (s x : Operand) (t : TypeId) (ho : o.op = .call { callee:=.builtin .append,args:=#[s,x],argTypes:=#[t,t] })
  (base : Nat) (e : TypeId) (ht : P.underlying t = some (.slice e)) (hi : (P.info? e).map (fun i=>(i.zero,i.size,i.bytes)) = some (some (.int k 0),1,by_))
  (v : Value) (n : Nat) (l : List Int) (hs : a.eval s = v) (hown : w.ownsRow base e 1 v n (kz k l))
  (ad : Addr) (c : Nat) (d : Int) (hx : a.eval x = .slice (some ad) 1 c) (hd : w.cell? ad = some (.int k d)) (hsm : n <= 10000000) (hbase : base <= w.heap.size)
  (h : ∀ g cap w',w'.ownsRow base e 1 (.slice (some ⟨g,0,none⟩) (n + 1) cap) (n + 1) (kz k (l ++ [d])) -> w.grownBy w' v.ownBlock -> (v.ownBlock = some g \/ g = w.heap.size) -> g < w'.heap.size -> wpList P ops Q rest (a.put o.dst (.slice (some ⟨g,0,none⟩) (n + 1) cap)) w') :
  wpList P ops Q (o :: rest) a w:=by
 obtain ⟨i0,hi0,hz0,hz1,hz2⟩ : ∃ i0,P.info? e = some i0 /\ i0.zero = some (.int k 0) /\ i0.size = 1 /\ i0.bytes = by_:=by
  cases h : P.info? e with
  | none=>rw [h] at hi;cases hi
  | some i=>rw [h] at hi;simp at hi;exact ⟨i,rfl,hi.1,hi.2.1,hi.2.2⟩
 refine wpList_append_lies w hgd s x t ho base e i0 (.int k 0) 1 by_ ht hi0 hz0 hz1 hz2 rfl (by decide) v n (kz k l) hs hown ad 1 c [.int k d] hx rfl ?_ ?_ (by decide) (by unfold maxLen;omega) ?_ hbase w.heap.size rfl ?_
 ·intro j u hj
  match j,hj with
  | 0,hj=>simp at hj;subst hj;simpa [Addr.add] using hd
 ·intro u hu;simp at hu;subst hu;rfl
 ·have : (n + 1) * by_ <= 10000001 * 8 := Nat.mul_le_mul (by omega) hby8
  omega
 ·intro g cap w' h1 h2 h3 h4
  refine h g cap w' ?_ h2 h3 h4
  rw [zvj];exact h1
theorem zex1 {k : IntKind} {l : List Int} {i : Nat} (h : i < l.length) : (kz k l)[i]? = some (.int k (l.getD i 0)):=by
 unfold kz
 rw [List.getElem?_map,List.getD_eq_getElem?_getD,List.getElem?_eq_getElem h];rfl
theorem zdl {p : Int -> Bool} {f : List Int} {q : Nat} (hq : q < f.length) : (f.take (q + 1)).all p = ((f.take q).all p && p (f.getD q 0)):=by
 rw [List.take_succ_eq_append_getElem hq,List.all_append,List.getD_eq_getElem?_getD,List.getElem?_eq_getElem hq];simp
theorem zcq1 {p : Int -> Bool} {f : List Int} {q : Nat} (hq : q < f.length) (h : p (f.getD q 0) = false) : f.all p = false:=by
 rw [List.all_eq_false]
 exact ⟨f.getD q 0,yd hq,by rw [h];decide⟩
theorem zvk {f : List Int} {q : Nat} (hq : q < f.length) : (f.take (q + 1)).map nN = (f.take q).map nN ++ [nN (f.getD q 0)]:=by
 rw [List.take_succ_eq_append_getElem hq,List.map_append,List.getD_eq_getElem?_getD,List.getElem?_eq_getElem hq];rfl
theorem g9 (n : Int) (hn : Z64 n) (w : World) : Calls Tryz.prog 201 #[.int .i64 n] w fun e w'=>e = .returned (.int .u64 (zj 1 n 0)) /\ w' = w:=by
 have C:=hid (ztz n hn w)
 obtain ⟨x,hx⟩ : ∃ x,x = zj 1 n 0:=⟨_,rfl⟩
 obtain ⟨b,hb⟩ : ∃ x,x = zo 1 n 0:=⟨_,rfl⟩
 rw [<- hx,<- hb] at C
 rw [<- hx]
 clear hx hb hn
 go_enter Tryz.func201,Tryz.ntmps201
 go_wp2_with (go_at_call 182;(with_reducible refine C.out.mono ?_);rintro e W1 ⟨rfl,hw1⟩;rw [hw1];clear hw1)
 go_ret
 exact ⟨rfl,rfl⟩
def kq (z : Int) (w : World) (e : Ending) (w' : World) : Prop:=∃ x,e = .returned (.tuple #[.int .u64 x,.bool (fixB z)]) /\ (fixB z = true -> x = zj 1 z 0) /\ Below w.heap.size w w'
set_option maxHeartbeats 4000000 in
theorem zde (neg : Bool) (ao : Option Addr) (n cap : Nat) (l : List Nat) (w : World) (R : Row .u32 B32 w ao n cap l) (g : qa neg l = true) :
  Calls Tryz.prog 159 #[.agg #[.bool neg,.slice ao n cap]] w (kq (sgn neg (val B32 l)) w):=by
 have b0:=Ba w (.cells #[.bool neg,.slice ao n cap] 104)
 have C:=hid (zen1 neg ao n cap l (w.alloc (.cells #[.bool neg,.slice ao n cap] 104)) (R.below b0) g)
 unfold zgt at C
 have hx:=ze w #[.bool neg,.slice ao n cap] 104
 have c0 : (w.alloc (.cells #[.bool neg,.slice ao n cap] 104)).cell? ⟨w.heap.size,0,none⟩ = some (.bool neg):=za hx 0
 have c1 : (w.alloc (.cells #[.bool neg,.slice ao n cap] 104)).cell? ⟨w.heap.size,1,none⟩ = some (.slice ao n cap):=za hx 1
 have HB:=hid b0
 obtain ⟨z,hz⟩ : ∃ z,z = sgn neg (val B32 l):=⟨_,rfl⟩
 rw [<- hz] at C ⊢
 clear R g hx b0 hz
 by_cases hf : fits z = true
 ·rw [hf] at C
  have hz64 : Z64 z:=by have:=of_decide_eq_true hf;unfold Z64;omega
  have CF : Hid (∀ W,Calls Tryz.prog 182 #[.int .i64 z] W fun e w'=>e = .returned (.tuple #[.int .u64 (zj 1 z 0),.bool (fixB z)]) /\ w' = W):=fun W=>ztz z hz64 W
  obtain ⟨x,hx⟩ : ∃ x,x = zj 1 z 0:=⟨_,rfl⟩
  obtain ⟨b,hb⟩ : ∃ b,b = fixB z:=⟨_,rfl⟩
  rw [<- hx,<- hb] at CF
  have HX:=hid hx
  have HBB:=hid hb
  clear hf hz64 hx hb
  go_enter Tryz.func159,Tryz.ntmps159
  go_wp2_with (first
   | (go_at_call 181;(with_reducible refine C.out.mono ?_);rintro e W1 ⟨v,rfl,hv,b1⟩;rw [hv rfl];have HB1:=hid (Bt HB.out b1);have C2:=hid (CF.out W1);clear b1 hv)
   | (go_at_call 182;(with_reducible refine C2.out.mono ?_);rintro e W2 ⟨rfl,hw2⟩;rw [hw2];clear hw2))
  go_ret2
  exact ⟨x,by rw [HBB.out];rfl,fun _=>HX.out,HB1.out⟩
 ·have hf' : fits z = false := by simpa using hf
  rw [hf'] at C
  have HFX : Hid (fixB z = false):=by
   unfold Hid fixB
   have:=of_decide_eq_false hf'
   by_cases k1 : -1152921504606846976 <= z
   ·rw [decide_eq_true k1,decide_eq_false (by omega)];rfl
   ·rw [decide_eq_false k1];rfl
  clear hf hf'
  go_enter Tryz.func159,Tryz.ntmps159
  go_wp2_with (go_at_call 181;(with_reducible refine C.out.mono ?_);rintro e W1 ⟨v,rfl,hv,b1⟩;have HB1:=hid (Bt HB.out b1);clear b1 hv)
  go_ret2
  exact ⟨_,by rw [HFX.out];rfl,fun h=>(by rw [HFX.out] at h;cases h),HB1.out⟩
theorem zey1 (c : Bool) (v : Nat) : (c && decide (v ≠ 0)) = decide (sgn (c && decide (v ≠ 0)) v < 0):=by
 cases c
 ·simp [sgn]
 ·by_cases h0 : v = 0
  ·subst h0;rfl
  ·have : decide (v ≠ 0) = true := decide_eq_true h0
   rw [this]
   symm
   refine decide_eq_true ?_
   simp [sgn]
   omega
theorem zhc (t : ByteArray) (ht : t.size <= 5000) (hp : ya t = true) (w : World) : Calls Tryz.prog 197 #[.string t,.int .i64 10] w fun e w'=>∃ neg ao n cap l,e = .returned (.tuple #[.agg #[.bool neg,.slice ao n cap],.int .i64 0]) /\ Row .u32 B32 w' ao n cap l /\ qa neg l = true /\ sgn neg (val B32 l) = txZ t /\ neg = decide (txZ t < 0) /\ l = mg (txZ t).natAbs /\ n <= 40 /\ Below w.heap.size w w':=by
 refine (zjf t 10 w (by unfold maxLen;omega)).mono ?_
 rintro e w' ⟨x,en,rfl,hb,h⟩
 unfold ya at hp
 simp only [Bool.and_eq_true,decide_eq_true_eq] at hp
 obtain ⟨⟨p1,p2⟩,p3⟩:=hp
 rcases h with ⟨h1,_⟩ | ⟨_,h2,_⟩ | ⟨_,_,h⟩
 ·exact absurd ⟨by omega,by omega⟩ h1
 ·rw [p1] at h2;cases h2
 ·rcases zhn h with ⟨a1, a2, ao, n, cap, l, rfl, R, g, hvl, hn⟩ | ⟨a1, _⟩
  ·subst a2
   have hv' : val B32 l = hv 10 (cutS (bs t)).2:=hvl
   refine ⟨_,ao,n,cap,l,rfl,R,g,?_,?_,?_,hn,hb⟩
   ·unfold txZ;rw [hv'];rfl
   ·exact zey1 _ _
   ·refine zeo1 R.dg (xi g) ?_
    unfold txZ;rw [show ∀ (b : Bool) (v : Nat),(sgn b v).natAbs = v from fun b v=>by cases b <;> simp [sgn]];exact hv'
  ·exact absurd p2 (by unfold Big at a1;show ¬ hv 10 (cutS (bs t)).2 < B32 ^ 40;exact Nat.not_lt.2 a1)
set_option maxHeartbeats 4000000 in
theorem zyu (t : ByteArray) (ht : t.size <= 5000) (hp : ya t = true) (w : World) : Calls Tryz.prog 172 #[.string t] w fun e w'=>e = .returned (.int .i64 (if fixB (txZ t) = true then 0 else 2 + (((mg (txZ t).natAbs).length : Nat) : Int))) /\ Below w.heap.size w w':=by
 have C:=hid (zhc t ht hp w)
 have CF : Hid (∀ (neg : Bool) (ao : Option Addr) (n cap : Nat) (l : List Nat) (W : World),Row .u32 B32 W ao n cap l -> qa neg l = true -> Calls Tryz.prog 159 #[.agg #[.bool neg,.slice ao n cap]] W (kq (sgn neg (val B32 l)) W)):=fun neg ao n cap l W R g=>zde neg ao n cap l W R g
 clear ht hp
 cases hf : fixB (txZ t)
 ·have HF := hid hf
  clear hf
  go_enter Tryz.func172,Tryz.ntmps172
  go_wp2_with (first
   | (go_at_call 197;(with_reducible refine C.out.mono ?_);rintro e W1 ⟨neg,ao,n,cap,l,rfl,R,g,hz,hng,hl,hn40,b1⟩;have hlen:=R.len;have hfits:=R.fits;have hmost:=R.most;have HBX:=hid (Ba W1 (.cells #[.bool neg,.slice ao n cap] 104));have hx:=ze W1 #[.bool neg,.slice ao n cap] 104;have HX:=hid hx;have c0 : (W1.alloc (.cells #[.bool neg,.slice ao n cap] 104)).cell? ⟨W1.heap.size,0,none⟩ = some (.bool neg):=za hx 0;have c1 : (W1.alloc (.cells #[.bool neg,.slice ao n cap] 104)).cell? ⟨W1.heap.size,1,none⟩ = some (.slice ao n cap):=za hx 1;have C2:=hid (CF.out neg ao n cap l _ (R.below HBX.out) g);rw [hz] at C2;unfold kq at C2;rw [HF.out] at C2;have HB1:=hid (Bt b1 HBX.out);have HL:=hid (show n = (mg (txZ t).natAbs).length by rw [<- hl];exact hlen.symm);clear b1 R g hz hng hl hlen hx)
   | (go_at_call 159;(with_reducible refine C2.out.mono ?_);rintro e W2 ⟨x,rfl,_,b2⟩;have HB2:=hid (Bt HB1.out b2);have d1 : W2.cell? ⟨W1.heap.size,1,none⟩ = some (.slice ao n cap):=za ((b2.block W1.heap.size (by rw [zb];omega)).trans HX.out) 1;unfold maxLen at hmost;clear b2))
  go_ret
  refine ⟨?_,HB2.out⟩
  rw [<- HL.out]
  rfl
 ·have HF := hid hf
  clear hf
  go_enter Tryz.func172,Tryz.ntmps172
  go_wp2_with (first
   | (go_at_call 197;(with_reducible refine C.out.mono ?_);rintro e W1 ⟨neg,ao,n,cap,l,rfl,R,g,hz,hng,hl,hn40,b1⟩;have HBX:=hid (Ba W1 (.cells #[.bool neg,.slice ao n cap] 104));have hx:=ze W1 #[.bool neg,.slice ao n cap] 104;have c0 : (W1.alloc (.cells #[.bool neg,.slice ao n cap] 104)).cell? ⟨W1.heap.size,0,none⟩ = some (.bool neg):=za hx 0;have c1 : (W1.alloc (.cells #[.bool neg,.slice ao n cap] 104)).cell? ⟨W1.heap.size,1,none⟩ = some (.slice ao n cap):=za hx 1;have C2:=hid (CF.out neg ao n cap l _ (R.below HBX.out) g);rw [hz] at C2;unfold kq at C2;rw [HF.out] at C2;have HB1:=hid (Bt b1 HBX.out);clear b1 R g hz hng hl hx)
   | (go_at_call 159;(with_reducible refine C2.out.mono ?_);rintro e W2 ⟨x,rfl,_,b2⟩;have HB2:=hid (Bt HB1.out b2);clear b2))
  go_ret
  exact ⟨rfl,HB2.out⟩
end Go.Proofs.YticimejfjjmikaaGreatDoor
