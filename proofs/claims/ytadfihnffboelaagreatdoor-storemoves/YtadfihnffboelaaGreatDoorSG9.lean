import Derived.Test.YtadfihnffboelaaGreatDoorSG6
set_option linter.unusedVariables false
set_option linter.unusedSimpArgs false
namespace Go.Proofs.YtadfihnffboelaaGreatDoor
open Go.RowKit
theorem word_nohd (k n : Int) (hk : k ≠ 8) : isHd (wordR k n 0) = false := by
 unfold isHd
 refine decide_eq_false (fun e => ?_)
 cases h : rightB k n 0
 ·have e0 : wordR k n 0 = 0 := by unfold wordR; rw [h]; rfl
  rw [e0] at e
  revert e; decide
 ·have := (say h hk rfl).1
  unfold nK at this
  rw [this] at e
  exact hk e
theorem plainWd_nohd (ls : List ByteArray) (d : Nd) : isHd (plainWd ls d) = false := by
 unfold plainWd
 repeat' split
 all_goals exact word_nohd _ _ (by decide)
theorem putS_nohd {nm : List ByteArray} {a : Nat} {cs : List Nd} : ∀ q, q <= cs.length -> ∀ z ∈ (putS nm a (cs.take q)).ws, isHd z = false
 | 0, _ => by simp [putS]
 | q + 1, h => by
  rw [putS_take (by omega)]
  have ih := putS_nohd (nm := nm) (a := a) (cs := cs) q (by omega)
  unfold stepP
  split
  ·intro z hz
   rcases List.mem_append.1 hz with hz | hz
   ·exact ih z hz
   ·obtain rfl := List.mem_singleton.1 hz; exact plainWd_nohd _ _
  ·intro z hz
   rcases List.mem_append.1 hz with hz | hz
   ·exact ih z hz
   ·obtain rfl := List.mem_singleton.1 hz; exact word_nohd _ _ (by decide)
theorem zero_nohd : isHd 0 = false := by decide
theorem getD_nohd {ws : List Int} (h : ∀ z ∈ ws, isHd z = false) (i : Nat) : isHd (ws.getD i 0) = false := by
 by_cases hi : i < ws.length
 ·exact h _ (getD_mem_w hi)
 ·rw [List.getD_eq_getElem?_getD, List.getElem?_eq_none (by omega)]; exact zero_nohd
theorem fields_nohd (d : Nd) {ws : List Int} (h : ∀ z ∈ ws, isHd z = false) : ∀ z ∈ fieldsL d ws, isHd z = false := by
 intro z hz
 unfold fieldsL at hz
 split at hz
 ·unfold bigL at hz
  rcases List.mem_cons.1 hz with rfl | hz
  ·exact word_nohd _ _ (by decide)
  ·obtain ⟨x, _, rfl⟩ := List.mem_map.1 hz; exact word_nohd _ _ (by decide)
 split at hz
 ·obtain ⟨x, _, rfl⟩ := List.mem_map.1 hz; exact word_nohd _ _ (by decide)
 split at hz
 ·unfold bytesL at hz
  obtain ⟨x, _, rfl⟩ := List.mem_map.1 hz; exact word_nohd _ _ (by decide)
 ·obtain ⟨x, _, rfl⟩ := List.mem_map.1 hz; exact getD_nohd h _
def objsOf (ws : List Int) (cs : List Nd) : List Ob := (cs.filter (fun d => decide (0 < sizeN d))).map (fun d => ⟨fieldsK d, fieldsL d ws⟩)
theorem fieldsK_rng (d : Nd) : 1 <= fieldsK d /\ fieldsK d <= 5 := by
 unfold fieldsK
 repeat' split
 all_goals omega
theorem objsOf_take {ws : List Int} {cs : List Nd} {q : Nat} (h : q < cs.length) : objsOf ws (cs.take (q + 1)) = objsOf ws (cs.take q) ++ (if 0 < sizeN (cs.getD q default) then [⟨fieldsK (cs.getD q default), fieldsL (cs.getD q default) ws⟩] else []) := by
 have e : cs.getD q default = cs[q] := by rw [List.getD_eq_getElem?_getD, List.getElem?_eq_getElem h]; rfl
 unfold objsOf
 rw [List.take_succ_eq_append_getElem h, List.filter_append, List.map_append, e]
 congr 1
 by_cases hz : 0 < sizeN cs[q]
 ·rw [if_pos hz, List.filter_cons_of_pos (by exact decide_eq_true hz)]; rfl
 ·rw [if_neg hz, List.filter_cons_of_neg (by rw [decide_eq_false hz]; decide)]; rfl
theorem objsOf_used {ws : List Int} {cs : List Nd} (hs : cs.all (fun d => decide (0 <= sizeN d)) = true) : ∀ q, q <= cs.length -> ((usedL (objsOf ws (cs.take q)) : Nat) : Int) = sumN (cs.take q)
 | 0, _ => by simp [objsOf, usedL, sumN]
 | q + 1, h => by
  have hq : q < cs.length := by omega
  have ih := objsOf_used (ws := ws) hs q (by omega)
  have hm : cs.getD q default ∈ cs := by rw [List.getD_eq_getElem?_getD, List.getElem?_eq_getElem hq]; exact List.getElem_mem _
  have h0 := of_decide_eq_true (List.all_eq_true.1 hs _ hm)
  rw [objsOf_take hq, sumN_take hq, usedL_append]
  by_cases hz : 0 < sizeN (cs.getD q default)
  ·have := fieldsL_len (ws := ws) hz
   rw [if_pos hz]
   show ((usedL (objsOf ws (cs.take q)) + (1 + (fieldsL (cs.getD q default) ws).length + 0) : Nat) : Int) = _
   omega
  ·rw [if_neg hz]
   show ((usedL (objsOf ws (cs.take q)) + 0 : Nat) : Int) = _
   omega
theorem putO_is {N : Int} {os : List Ob} {ws : List Int} {cs : List Nd} (hw : ∀ z ∈ ws, isHd z = false) (hs : cs.all (fun d => decide (0 <= sizeN d)) = true) (hr : ((usedL os : Nat) : Int) + sumN cs <= N) : ∀ q, q <= cs.length -> putO N ws os (cs.take q) = os ++ objsOf ws (cs.take q)
 | 0, _ => by simp [putO, objsOf]
 | q + 1, h => by
  have hq : q < cs.length := by omega
  have ih := putO_is (N := N) (os := os) hw hs hr q (by omega)
  have hu := objsOf_used (ws := ws) hs q (by omega)
  have hsum := sumN_le hs (q + 1)
  rw [sumN_take hq] at hsum
  rw [putO_take hq, objsOf_take hq, ih]
  by_cases hz : 0 < sizeN (cs.getD q default)
  ·rw [if_pos hz, if_pos hz]
   have hk := fieldsK_rng (cs.getD q default)
   have hl := fieldsL_len (ws := ws) hz
   have hany : (fieldsL (cs.getD q default) ws).any isHd = false := by
    rw [List.any_eq_false]
    intro z hz'
    rw [fields_nohd _ hw z hz']; decide
   have hal : (allocM (os ++ objsOf ws (cs.take q)) N (fieldsK (cs.getD q default)) (fieldsL (cs.getD q default) ws)).2 = 0 := by
    unfold allocM
    rw [if_neg (by omega), hany, if_neg (by decide), if_neg (by rw [usedL_append]; omega)]
   unfold allocO
   rw [if_pos hal, List.append_assoc]
  ·rw [if_neg hz, if_neg hz, List.append_nil]
section
variable {N : Int} {os : List Ob} {nm : List ByteArray} {cs : List Nd}
structure PutOk (N : Int) (os : List Ob) (nm : List ByteArray) (cs : List Nd) : Prop where
 nd : ∀ d ∈ cs, nodeB cs.length d = true
 cn : ∀ d ∈ cs, CNd d
 sz : cs.all (fun d => decide (0 <= sizeN d)) = true
 room : ((usedL os : Nat) : Int) + sumN cs <= N
 most : N <= 4194304
 nms : nm.length + cs.length <= 1000000000
theorem PutOk.objs (h : PutOk N os nm cs) : putO N (putS nm (usedL os) cs).ws os cs = os ++ objsOf (putS nm (usedL os) cs).ws cs := by
 have hw := putS_nohd (nm := nm) (a := usedL os) (cs := cs) cs.length (Nat.le_refl _)
 rw [List.take_length] at hw
 have := putO_is (N := N) (os := os) hw h.sz h.room cs.length (Nat.le_refl _)
 rw [List.take_length] at this
 exact this
theorem PutOk.used (h : PutOk N os nm cs) : ((usedL (os ++ objsOf (putS nm (usedL os) cs).ws cs) : Nat) : Int) = (usedL os : Nat) + sumN cs /\ usedL (os ++ objsOf (putS nm (usedL os) cs).ws cs) <= 4194304 := by
 have := objsOf_used (ws := (putS nm (usedL os) cs).ws) h.sz cs.length (Nat.le_refl _)
 rw [List.take_length] at this
 have hr := h.room
 have hm := h.most
 rw [usedL_append]
 omega
theorem PutOk.place (h : PutOk N os nm cs) {i : Nat} (hi : i < cs.length) (hz : 0 < sizeN (cs.getD i default)) :
  ∃ k, findM (os ++ objsOf (putS nm (usedL os) cs).ws cs) ((putS nm (usedL os) cs).ws.getD i 0) = some k /\ (os ++ objsOf (putS nm (usedL os) cs).ws cs).getD k default = ⟨fieldsK (cs.getD i default), fieldsL (cs.getD i default) (putS nm (usedL os) cs).ws⟩ /\ (putS nm (usedL os) cs).ws.getD i 0 = wordR 2 ((putS nm (usedL os) (cs.take i)).at_ : Nat) 0 /\ ((putS nm (usedL os) (cs.take i)).at_ : Int) = (usedL os : Nat) + sumN (cs.take i) /\ k = (os ++ objsOf (putS nm (usedL os) cs).ws (cs.take i)).length := by
 have hu := h.used.2
 have hw := putS_word (nm := nm) (a := usedL os) hi
 rw [if_neg (by omega)] at hw
 have hat := putS_at (nm := nm) (a := usedL os) h.sz i (by omega)
 generalize hws : (putS nm (usedL os) cs).ws = ws at *
 have hou := objsOf_used (ws := ws) h.sz i (by omega)
 have hsplit : ∃ rest, objsOf ws cs = objsOf ws (cs.take i) ++ (⟨fieldsK (cs.getD i default), fieldsL (cs.getD i default) ws⟩ :: rest) := by
  have e1 : cs = cs.take (i + 1) ++ cs.drop (i + 1) := (List.take_append_drop _ _).symm
  refine ⟨objsOf ws (cs.drop (i + 1)), ?_⟩
  conv => lhs; rw [e1]
  have e2 : ∀ x y : List Nd, objsOf ws (x ++ y) = objsOf ws x ++ objsOf ws y := fun x y => by unfold objsOf; rw [List.filter_append, List.map_append]
  rw [e2, objsOf_take hi, if_pos hz, List.append_assoc]; rfl
 obtain ⟨rest, hsp⟩ := hsplit
 have hk : (os ++ objsOf ws (cs.take i)).length < (os ++ objsOf ws cs).length := by
  rw [hsp, <- List.append_assoc]; simp
 have hatk : atO (os ++ objsOf ws cs) (os ++ objsOf ws (cs.take i)).length = (putS nm (usedL os) (cs.take i)).at_ := by
  unfold atO
  rw [hsp, <- List.append_assoc, List.take_left, usedL_append]
  omega
 refine ⟨(os ++ objsOf ws (cs.take i)).length, ?_, ?_, hw, hat, rfl⟩
 ·rw [hw, <- hatk]
  exact find_ptr hk (by omega)
 ·rw [hsp, <- List.append_assoc, List.getD_eq_getElem?_getD, List.getElem?_append_right (Nat.le_refl _), Nat.sub_self]; rfl
theorem PutOk.told (h : PutOk N os nm cs) {i : Nat} (hi : i < cs.length) :
  wordD (os ++ objsOf (putS nm (usedL os) cs).ws cs) (putS nm (usedL os) cs).nm ((putS nm (usedL os) cs).ws.getD i 0) = { cs.getD i default with kids := (cs.getD i default).kids.map (fun k => (putS nm (usedL os) cs).ws.getD k.toNat 0) } := by
 have hm : cs.getD i default ∈ cs := by rw [List.getD_eq_getElem?_getD, List.getElem?_eq_getElem hi]; exact List.getElem_mem _
 have hnd := h.nd _ hm
 have hcn := h.cn _ hm
 have h0 := of_decide_eq_true (List.all_eq_true.1 h.sz _ hm)
 by_cases hz : 0 < sizeN (cs.getD i default)
 ·obtain ⟨k, hf, hg, _⟩ := h.place hi hz
  unfold wordD
  rw [hf]
  simp only [hg]
  exact told_obj hnd hz _ _ _
 ·have hz0 : sizeN (cs.getD i default) = 0 := by omega
  have hw := putS_word (nm := nm) (a := usedL os) hi
  rw [if_pos hz0] at hw
  rw [hw]
  have hpre : plainN (putS nm (usedL os) (cs.take i)).nm (cs.getD i default) <+: (putS nm (usedL os) cs).nm := by
   have h1 := putS_pre (nm := nm) (a := usedL os) (cs := cs) (q := i + 1) (p := cs.length) (by omega) (Nat.le_refl _)
   rw [List.take_length, putS_take hi] at h1
   unfold stepP at h1
   rw [if_pos hz0] at h1
   exact h1
  have hlen : (putS nm (usedL os) cs).nm.length <= 1000000000 := by
   have := putS_nm (nm := nm) (a := usedL os) (cs := cs) cs.length (Nat.le_refl _)
   rw [List.take_length] at this
   have := h.nms
   omega
  rw [told_plain hnd hcn hz0 _ hpre hlen]
  obtain ⟨_, _, _, _, h5, _⟩ := node_parts hnd
  have hk : (cs.getD i default).kids = [] := by
   rcases size_zero hcn hz0 with e | e | e | e | e | e | ⟨e, _⟩ <;> rw [e] at h5 <;> exact no_kids h5 (by decide) (by decide) (by decide) (by decide) (by decide)
  exact nd_ext rfl rfl rfl (by rw [hk]; rfl)
theorem plain_kind (ls : List ByteArray) (d : Nd) (hk : d.kind = 1 \/ d.kind = 2 \/ d.kind = 4 \/ d.kind = 6 \/ d.kind = 10 \/ d.kind = 11 \/ d.kind = 3) : nK (plainWd ls d) ≠ 2 := by
 have key : ∀ k n : Int, k ≠ 8 -> k ≠ 2 -> nK (wordR k n 0) ≠ 2 := fun k n h8 h2 => by
  cases h : rightB k n 0
  ·have e0 : wordR k n 0 = 0 := by unfold wordR; rw [h]; rfl
   rw [e0]; exact nK_zero
  ·rw [(say h h8 rfl).1]; exact h2
 unfold plainWd
 repeat' split
 all_goals exact key _ _ (by decide) (by decide)
theorem PutOk.apart (h : PutOk N os nm cs) {i j : Nat} (hi : i < cs.length) (hj : j < cs.length) (e : (putS nm (usedL os) cs).ws.getD i 0 = (putS nm (usedL os) cs).ws.getD j 0) : i = j \/ atomB (cs.getD i default).kind = true := by
 have mem : ∀ {i}, i < cs.length -> cs.getD i default ∈ cs := fun {i} hi => by rw [List.getD_eq_getElem?_getD, List.getElem?_eq_getElem hi]; exact List.getElem_mem _
 have pos : ∀ {i}, i < cs.length -> 0 <= sizeN (cs.getD i default) := fun {i} hi => of_decide_eq_true (List.all_eq_true.1 h.sz _ (mem hi))
 have kin : ∀ {i}, i < cs.length -> sizeN (cs.getD i default) = 0 -> (cs.getD i default).kind = 1 \/ (cs.getD i default).kind = 2 \/ (cs.getD i default).kind = 4 \/ (cs.getD i default).kind = 6 \/ (cs.getD i default).kind = 10 \/ (cs.getD i default).kind = 11 \/ (cs.getD i default).kind = 3 := fun {i} hi hz => by
  rcases size_zero (h.cn _ (mem hi)) hz with e | e | e | e | e | e | ⟨e, _⟩ <;> omega
 by_cases hzi : sizeN (cs.getD i default) = 0
 ·right
  unfold atomB
  rcases kin hi hzi with e | e | e | e | e | e | e <;> rw [e] <;> decide
 ·left
  have hpi := pos hi
  obtain ⟨k, hf, _, hwi, hai, _⟩ := h.place hi (by omega)
  by_cases hzj : sizeN (cs.getD j default) = 0
  ·have hwj := putS_word (nm := nm) (a := usedL os) hj
   rw [if_pos hzj] at hwj
   have := find_place hf
   rw [e, hwj] at this
   exact absurd this (plain_kind _ _ (kin hj hzj))
  ·have hpj := pos hj
   obtain ⟨k', hf', _, hwj, haj, _⟩ := h.place hj (by omega)
   have s1 := sumN_le h.sz i
   have s2 := sumN_le h.sz j
   have hm := h.most
   have hr := h.room
   rw [hwi, hwj] at e
   have e2 : ((putS nm (usedL os) (cs.take i)).at_ : Int) = ((putS nm (usedL os) (cs.take j)).at_ : Int) := by
    have a1 := (say2 (n := (putS nm (usedL os) (cs.take i)).at_) (by omega)).2
    have a2 := (say2 (n := (putS nm (usedL os) (cs.take j)).at_) (by omega)).2
    rw [e] at a1
    exact a1.symm.trans a2
   have mono : ∀ p q : Nat, p < q -> q <= cs.length -> 0 < sizeN (cs.getD p default) -> sumN (cs.take p) < sumN (cs.take q) := fun p q hpq hq hz => by
    have e1 : cs.take q = cs.take (p + 1) ++ (cs.take q).drop (p + 1) := by
     conv => lhs; rw [<- List.take_append_drop (p + 1) (cs.take q)]
     rw [List.take_take, Nat.min_eq_left (by omega)]
    rw [e1, sumN_app, sumN_take (by omega)]
    have : 0 <= sumN ((cs.take q).drop (p + 1)) := sumN_nonneg (fun d hd => of_decide_eq_true (List.all_eq_true.1 h.sz _ (List.mem_of_mem_take (List.mem_of_mem_drop hd))))
    omega
   rcases Nat.lt_trichotomy i j with hlt | hlt | hlt
   ·have := mono i j hlt (by omega) (by omega); omega
   ·exact hlt
   ·have := mono j i hlt (by omega) (by omega); omega
end
def dd : List Int -> List Int
 | [] => []
 | x :: l => if x ∈ l then dd l else x :: dd l
theorem mem_dd : ∀ {l : List Int} {x : Int}, x ∈ dd l ↔ x ∈ l
 | [], x => Iff.rfl
 | y :: l, x => by
  unfold dd
  by_cases h : y ∈ l
  ·rw [if_pos h, mem_dd, List.mem_cons]
   constructor
   ·exact .inr
   ·rintro (rfl | e)
    ·exact h
    ·exact e
  ·rw [if_neg h, List.mem_cons, List.mem_cons, mem_dd]
theorem nodup_dd : ∀ (l : List Int), (dd l).Nodup
 | [] => List.nodup_nil
 | y :: l => by
  unfold dd
  by_cases h : y ∈ l
  ·rw [if_pos h]; exact nodup_dd l
  ·rw [if_neg h]; exact List.nodup_cons.2 ⟨fun e => h (mem_dd.1 e), nodup_dd l⟩
theorem ok_kids {d : Nd} (h : okD d = true) (ha : atomB d.kind = true) : d.kids = [] := by
 unfold okD at h
 rw [Bool.and_eq_true] at h
 have hk : d.kind = 1 \/ d.kind = 2 \/ d.kind = 3 \/ d.kind = 4 \/ d.kind = 6 \/ d.kind = 10 \/ d.kind = 11 := by
  unfold atomB at ha
  simp only [Bool.or_eq_true, decide_eq_true_eq] at ha
  omega
 refine no_kids h.2 ?_ ?_ ?_ ?_ ?_ <;> omega
section
variable {D Dc : Int -> Nd} {roots rootsc W Wc rs rc : List Int} {ns nc : List Nd} {ψ : Int -> Int} {f : Nat}
theorem told_two (T : Told D roots W ns rs) (Tc : Told Dc rootsc Wc nc rc) (hr : roots = rootsc.map ψ) (hok : ∀ x, okD (D x) = true)
  (hψ : ∀ x, Rch Dc rootsc x -> sameA (D (ψ x)) (Dc x) /\ (D (ψ x)).kids = (Dc x).kids.map ψ)
  (hi : ∀ x y, Rch Dc rootsc x -> Rch Dc rootsc y -> ψ x = ψ y -> x = y \/ atomB (Dc x).kind = true)
  (hb : ∀ x, Rch Dc rootsc x -> atomB (Dc x).kind = true -> (Dc x).kids = []) (F : Fine ns rs f) (Fc : Fine nc rc f) : canonG ns rs f = canonG nc rc f := by
 have hin : ∀ i, i < ns.length -> W.getD i 0 ∈ W := fun i hi => getD_mem_w (by rw [T.len]; exact hi)
 have hc : ∀ x ∈ dd W, ∀ y ∈ (D x).kids, y ∈ dd W := fun x hx y hy => by
  obtain ⟨i, hi, rfl⟩ := mem_getD_w (mem_dd.1 hx)
  rw [T.len] at hi
  rw [<- T.kids i hi] at hy
  obtain ⟨k, hk, rfl⟩ := List.mem_map.1 hy
  have := T.kr i hi k hk
  exact mem_dd.2 (hin _ (by omega))
 have hrt : ∀ x ∈ roots, x ∈ dd W := fun x hx => by
  rw [<- T.rts] at hx
  obtain ⟨k, hk, rfl⟩ := List.mem_map.1 hx
  have := T.rr k hk
  exact mem_dd.2 (hin _ (by omega))
 have TM := told_mk (D := D) (roots := roots) (nodup_dd W) hc hrt
 have hg := TM.good (fun x _ => hok x)
 have hn := mk_nodup (D := D) (nodup_dd W)
 have e1 : canonG (mkG D (dd W)) (roots.map (fun y => (((dd W).idxOf y : Nat) : Int))) f = canonG ns rs f := by
  have TM' : Told D (roots.map id) (dd W) (mkG D (dd W)) (roots.map (fun y => (((dd W).idxOf y : Nat) : Int))) := by rw [List.map_id]; exact TM
  exact told_canon T TM' hn (fun x _ => ⟨⟨rfl, rfl, rfl⟩, (List.map_id _).symm⟩) (fun x y _ _ e => .inl e) (fun x _ ha => ok_kids (hok x) ha) F hg
 have e2 : canonG (mkG D (dd W)) (roots.map (fun y => (((dd W).idxOf y : Nat) : Int))) f = canonG nc rc f := by
  rw [hr] at TM hg ⊢
  exact told_canon Tc TM hn hψ hi hb Fc hg
 rw [<- e1, e2]
end
theorem told_self {ns : List Nd} {rs : List Int} (h : goodG ns rs = true) : Told (fun i => ns.getD i.toNat default) rs ((List.range ns.length).map (fun n : Nat => (n : Int))) ns rs := by
 have hW : ∀ i, i < ns.length -> ((List.range ns.length).map (fun n : Nat => (n : Int))).getD i 0 = (i : Int) := fun i hi => by
  rw [List.getD_eq_getElem?_getD, List.getElem?_map, List.getElem?_range hi]; rfl
 obtain ⟨hk, hr⟩ := goodG_parts h
 have hid : ∀ l : List Int, (∀ k ∈ l, 0 <= k /\ k < ns.length) -> l.map (fun k => ((List.range ns.length).map (fun n : Nat => (n : Int))).getD k.toNat 0) = l := fun l hl => by
  conv => rhs; rw [<- List.map_id l]
  refine List.map_congr_left (fun k hk => ?_)
  have := hl k hk
  rw [hW _ (by omega)]
  show (k.toNat : Int) = k
  omega
 have hkr : ∀ i, i < ns.length -> ∀ k ∈ (ns.getD i default).kids, 0 <= k /\ k < ns.length := fun i hi => by
  have hm : ns.getD i default ∈ ns := by rw [List.getD_eq_getElem?_getD, List.getElem?_eq_getElem hi]; exact List.getElem_mem _
  exact places_rng (nodeB_parts (goodG_nodes h _ hm)).2
 refine ⟨by simp, fun i hi => ?_, fun i hi => ?_, hkr, hid rs (places_rng hr), places_rng hr, fun i j hi hj e => .inl ?_⟩
 ·rw [hW i hi]; exact ⟨rfl, rfl, rfl⟩
 ·rw [hW i hi, hid _ (hkr i hi)]; rfl
 ·rw [hW i hi, hW j hj] at e; omega
theorem rch_self {ns : List Nd} {rs : List Int} (h : goodG ns rs = true) {x : Int} (hx : Rch (fun i => ns.getD i.toNat default) rs x) : 0 <= x /\ x < ns.length := by
 obtain ⟨hk, hr⟩ := goodG_parts h
 induction hx with
 | root hm => exact places_rng hr _ hm
 | @kid x y _ hy ih =>
  have hm : ns.getD x.toNat default ∈ ns := by rw [List.getD_eq_getElem?_getD, List.getElem?_eq_getElem (by omega)]; exact List.getElem_mem _
  exact places_rng (nodeB_parts (goodG_nodes h _ hm)).2 y hy
theorem good_bare {ns : List Nd} {rs : List Int} (h : goodG ns rs = true) {x : Int} (hx : 0 <= x /\ x < ns.length) (ha : atomB (ns.getD x.toNat default).kind = true) : (ns.getD x.toNat default).kids = [] := by
 have hm : ns.getD x.toNat default ∈ ns := by rw [List.getD_eq_getElem?_getD, List.getElem?_eq_getElem (by omega)]; exact List.getElem_mem _
 exact goodG_bare h _ hm ha
section
variable {N : Int} {os : List Ob} {nm : List ByteArray} {cs ns : List Nd} {crs rs W : List Int} {f : Nat}
abbrev pW (nm : List ByteArray) (os : List Ob) (cs : List Nd) (x : Int) : Int := (putS nm (usedL os) cs).ws.getD x.toNat 0
abbrev pO (nm : List ByteArray) (os : List Ob) (cs : List Nd) : List Ob := os ++ objsOf (putS nm (usedL os) cs).ws cs
abbrev pR (nm : List ByteArray) (os : List Ob) (cs : List Nd) (crs : List Int) : List Int := crs.map (pW nm os cs)
abbrev gD (cs : List Nd) (x : Int) : Nd := cs.getD x.toNat default
theorem PutOk.mem (h : PutOk N os nm cs) {i : Nat} (hi : i < cs.length) : cs.getD i default ∈ cs /\ 0 <= sizeN (cs.getD i default) := by
 have hm : cs.getD i default ∈ cs := by rw [List.getD_eq_getElem?_getD, List.getElem?_eq_getElem hi]; exact List.getElem_mem _
 exact ⟨hm, of_decide_eq_true (List.all_eq_true.1 h.sz _ hm)⟩
theorem PutOk.says (h : PutOk N os nm cs) {i : Nat} (hi : i < cs.length) : nK ((putS nm (usedL os) cs).ws.getD i 0) = 2 ↔ 0 < sizeN (cs.getD i default) := by
 obtain ⟨hm, h0⟩ := h.mem hi
 constructor
 ·intro e
  refine Classical.byContradiction (fun hz => ?_)
  have hz0 : sizeN (cs.getD i default) = 0 := by omega
  have hw := putS_word (nm := nm) (a := usedL os) hi
  rw [if_pos hz0] at hw
  rw [hw] at e
  refine plain_kind _ _ ?_ e
  rcases size_zero (h.cn _ hm) hz0 with e | e | e | e | e | e | ⟨e, _⟩ <;> omega
 ·intro hz
  obtain ⟨k, hf, _⟩ := h.place hi hz
  exact find_place hf
theorem field_place {d : Nd} {ws : List Int} {n : Nat} (hd : nodeB n d = true) (hz : 0 < sizeN d) {z : Int} (hm : z ∈ fieldsL d ws) (h2 : nK z = 2) : ∃ y ∈ d.kids, z = ws.getD y.toNat 0 := by
 have key : ∀ k n : Int, k ≠ 8 -> k ≠ 2 -> nK (wordR k n 0) ≠ 2 := fun k n h8 h2 => by
  cases h : rightB k n 0
  ·have e0 : wordR k n 0 = 0 := by unfold wordR; rw [h]; rfl
   rw [e0]; exact nK_zero
  ·rw [(say h h8 rfl).1]; exact h2
 unfold fieldsL at hm
 split at hm
 ·unfold bigL at hm
  rcases List.mem_cons.1 hm with rfl | hm
  ·exact absurd h2 (key _ _ (by decide) (by decide))
  ·obtain ⟨x, _, rfl⟩ := List.mem_map.1 hm; exact absurd h2 (key _ _ (by decide) (by decide))
 split at hm
 ·obtain ⟨x, _, rfl⟩ := List.mem_map.1 hm; exact absurd h2 (key _ _ (by decide) (by decide))
 split at hm
 ·unfold bytesL at hm
  obtain ⟨x, _, rfl⟩ := List.mem_map.1 hm; exact absurd h2 (key _ _ (by decide) (by decide))
 ·obtain ⟨x, hx, rfl⟩ := List.mem_map.1 hm; exact ⟨x, hx, rfl⟩
theorem kid_field {d : Nd} {ws : List Int} {n : Nat} (hd : nodeB n d = true) (hz : 0 <= sizeN d) {y : Int} (hy : y ∈ d.kids) : 0 < sizeN d /\ ws.getD y.toNat 0 ∈ fieldsL d ws := by
 obtain ⟨h1, h2, h3, h4, h5, h6⟩ := node_parts hd
 have hne : d.kids ≠ [] := fun e => by rw [e] at hy; cases hy
 have hk : d.kind = 7 \/ d.kind = 8 := by
  refine Classical.byContradiction (fun hn => ?_)
  have hs : d.kind ≠ 13 /\ d.kind ≠ 15 /\ d.kind ≠ 16 := by
   refine ⟨fun e => ?_, fun e => ?_, fun e => ?_⟩ <;>(unfold sizeN at hz; rw [e] at hz; simp at hz)
  exact hne (no_kids h5 (by omega) (by omega) (by omega) (by omega) (by omega))
 refine ⟨?_, ?_⟩
 ·unfold sizeN
  rw [if_neg (by omega), if_neg (by omega), if_neg (by omega), if_pos hk]; omega
 ·unfold fieldsL
  rw [if_neg (by omega), if_neg (by omega), if_neg (by omega)]
  exact List.mem_map_of_mem (f := fun k => ws.getD k.toNat 0) hy
theorem PutOk.lives (h : PutOk N os nm cs) (hg : goodG cs crs = true) {x : Int} (hx : Rch (gD cs) crs x) : ∀ k, findM (pO nm os cs) (pW nm os cs x) = some k -> Lv (pO nm os cs) (pR nm os cs crs) k := by
 induction hx with
 | @root x hm => exact fun k hk => .root (List.mem_map_of_mem (f := pW nm os cs) hm) hk
 | @kid x y hx hy ih =>
  intro k hk
  have hr := rch_self hg hx
  obtain ⟨hm, h0⟩ := h.mem (i := x.toNat) (by omega)
  obtain ⟨hz, hfl⟩ := kid_field (ws := (putS nm (usedL os) cs).ws) (h.nd _ hm) h0 hy
  obtain ⟨j, hf, hgo, _⟩ := h.place (i := x.toNat) (by omega) hz
  refine .step (ih j hf) (z := pW nm os cs y) ?_ hk
  rw [hgo]; exact hfl
theorem PutOk.lives' (h : PutOk N os nm cs) (hg : goodG cs crs = true) {k : Nat} (hl : Lv (pO nm os cs) (pR nm os cs crs) k) : ∃ x : Int, Rch (gD cs) crs x /\ 0 < sizeN (gD cs x) /\ findM (pO nm os cs) (pW nm os cs x) = some k := by
 have fin : ∀ x : Int, Rch (gD cs) crs x -> ∀ k, findM (pO nm os cs) (pW nm os cs x) = some k -> 0 < sizeN (gD cs x) := fun x hx k hf => by
  have hr := rch_self hg hx
  exact (h.says (i := x.toNat) (by omega)).1 (find_place hf)
 induction hl with
 | @root r i hm hf =>
  obtain ⟨x, hx, rfl⟩ := List.mem_map.1 hm
  exact ⟨x, .root hx, fin x (.root hx) _ hf, hf⟩
 | @step i j z hl hz hf ih =>
  obtain ⟨x, hx, hsx, hfx⟩ := ih
  have hr := rch_self hg hx
  obtain ⟨hm, h0⟩ := h.mem (i := x.toNat) (by omega)
  obtain ⟨k', hf', hgo, _⟩ := h.place (i := x.toNat) (by omega) hsx
  have e : k' = i := by
   have : findM (pO nm os cs) (pW nm os cs x) = some k' := hf'
   rw [hfx] at this; exact (Option.some.inj this).symm
  subst e
  rw [hgo] at hz
  obtain ⟨y, hy, rfl⟩ := field_place (h.nd _ hm) hsx hz (find_place hf)
  have hy' : Rch (gD cs) crs y := .kid hx hy
  exact ⟨y, hy', fin y hy' _ hf, hf⟩
theorem PutOk.firm (h : PutOk N os nm cs) (hg : goodG cs crs = true) {x : Int} (hx : Rch (gD cs) crs x) : Firm (pO nm os cs) (lvL (pO nm os cs) (pR nm os cs crs)) (pW nm os cs x) := fun e => by
 have hr := rch_self hg hx
 have hz := (h.says (i := x.toNat) (by omega)).1 e
 obtain ⟨k, hf, _⟩ := h.place (i := x.toNat) (by omega) hz
 exact ⟨k, hf, lvL_iff.2 (h.lives hg hx k hf)⟩
theorem PutOk.firms (h : PutOk N os nm cs) (hg : goodG cs crs = true) {k : Nat} (hl : (lvL (pO nm os cs) (pR nm os cs crs)).getD k false = true) : ∀ z ∈ ((pO nm os cs).getD k default).f, Firm (pO nm os cs) (lvL (pO nm os cs) (pR nm os cs crs)) z := by
 intro z hz e
 obtain ⟨x, hx, hsx, hfx⟩ := h.lives' hg (lvL_iff.1 hl)
 have hr := rch_self hg hx
 obtain ⟨hm, h0⟩ := h.mem (i := x.toNat) (by omega)
 obtain ⟨k', hf', hgo, _⟩ := h.place (i := x.toNat) (by omega) hsx
 have e2 : k' = k := by
  have : findM (pO nm os cs) (pW nm os cs x) = some k' := hf'
  rw [hfx] at this; exact (Option.some.inj this).symm
 subst e2
 rw [hgo] at hz
 obtain ⟨y, hy, rfl⟩ := field_place (h.nd _ hm) hsx hz e
 exact h.firm hg (.kid hx hy) e
theorem toM_inj {os : List Ob} {l : List Bool} (hl : l.length = os.length) {i j : Nat} (hi : i < os.length) (hj : j < os.length) (bi : l.getD i false = true) (bj : l.getD j false = true) (e : toM os l i = toM os l j) : i = j := by
 have mono : ∀ p q, p <= q -> q <= os.length -> toM os l p <= toM os l q := fun p q hpq => by
  induction q with
  | zero => intro _; obtain rfl : p = 0 := by omega
            exact Nat.le_refl _
  | succ q ih =>
   intro hq
   by_cases ep : p = q + 1
   ·subst ep; exact Nat.le_refl _
   ·have := ih (by omega) (by omega)
    rw [toM_succ (by omega) hl]; omega
 rcases Nat.lt_trichotomy i j with h | h | h
 ·have h1 := toM_succ hi hl
  rw [bi, if_pos rfl] at h1
  have := mono (i + 1) j h (by omega); omega
 ·exact h
 ·have h1 := toM_succ hj hl
  rw [bj, if_pos rfl] at h1
  have := mono (j + 1) i h (by omega); omega
theorem mv_inj {os : List Ob} {l : List Bool} (hu : usedL os <= 1099511627776) (hl : l.length = os.length) {x y : Int} (hx : Firm os l x) (hy : Firm os l y) (ux : U64 x) (uy : U64 y) (e : movedM os l x = movedM os l y) : x = y := by
 by_cases ex : nK x = 2 <;> by_cases ey : nK y = 2
 ·obtain ⟨i, fi, bi⟩ := hx ex
  obtain ⟨j, fj, bj⟩ := hy ey
  have hi := findM_lt fi
  have hj := findM_lt fj
  have e1 : movedM os l x = wordR 2 (toM os l i : Nat) 0 := by unfold movedM; rw [fi]; simp only [bi, if_true]
  have e2 : movedM os l y = wordR 2 (toM os l j : Nat) 0 := by unfold movedM; rw [fj]; simp only [bj, if_true]
  rw [e1, e2] at e
  have t1 := toM_le hl (i := i) (by omega)
  have t2 := toM_le hl (i := j) (by omega)
  have a1 := at_lt hi.1
  have a2 := at_lt hj.1
  have n1 := (say2 (n := toM os l i) (by omega)).2
  have n2 := (say2 (n := toM os l j) (by omega)).2
  rw [e] at n1
  have : (toM os l i : Int) = (toM os l j : Int) := n1.symm.trans n2
  have hij := toM_inj hl hi.1 hj.1 bi bj (by omega)
  subst hij
  have p1 := place_word ux ex
  have p2 := place_word uy ey
  have q1 := hi.2
  have q2 := hj.2
  omega
 ·have := mv_kind hu hl ex
  rw [e, mv_same ey] at this
  exact absurd this ey
 ·have := mv_kind hu hl ey
  rw [<- e, mv_same ex] at this
  exact absurd this ex
 ·rw [mv_same ex, mv_same ey] at e; exact e
theorem show_moved (h : PutOk N os nm cs) (hg : goodG cs crs = true) (T : Told (wordD (collO (pO nm os cs) (lvL (pO nm os cs) (pR nm os cs crs))) (putS nm (usedL os) cs).nm) ((pR nm os cs crs).map (movedM (pO nm os cs) (lvL (pO nm os cs) (pR nm os cs crs)))) W ns rs)
  (F : Fine ns rs f) (Fc : Fine cs crs f) : canonG ns rs f = canonG cs crs f := by
 have hu : usedL (pO nm os cs) <= 1099511627776 := Nat.le_trans h.used.2 (by decide)
 have hl := lvL_length (pO nm os cs) (pR nm os cs crs)
 have hws : ∀ x : Int, U64 (pW nm os cs x) := fun x => by
  by_cases hx : x.toNat < (putS nm (usedL os) cs).ws.length
  ·have := putS_u (nm := nm) (a := usedL os) (cs := cs) cs.length (Nat.le_refl _)
   rw [List.take_length] at this
   exact this _ (getD_mem_w hx)
  ·show U64 ((putS nm (usedL os) cs).ws.getD x.toNat 0)
   rw [List.getD_eq_getElem?_getD, List.getElem?_eq_none (by omega)]
   unfold U64; decide
 refine told_two (ψ := fun x => movedM (pO nm os cs) (lvL (pO nm os cs) (pR nm os cs crs)) (pW nm os cs x)) T (told_self hg) (by rw [List.map_map]; rfl) (fun x => ok_word _ _ x) (fun x hx => ?_) (fun x y hx hy e => ?_) (fun x hx ha => good_bare hg (rch_self hg hx) ha) F Fc
 ·have hr := rch_self hg hx
  have h1 := mv_word (nm := (putS nm (usedL os) cs).nm) hu hl (fun k _ hb => h.firms hg hb) (h.firm hg hx)
  have h2 := h.told (i := x.toNat) (by omega)
  have h3 : wordD (pO nm os cs) (putS nm (usedL os) cs).nm (pW nm os cs x) = { gD cs x with kids := (gD cs x).kids.map (pW nm os cs) } := h2
  rw [h1, h3]
  refine ⟨⟨rfl, rfl, rfl⟩, ?_⟩
  show ((gD cs x).kids.map (pW nm os cs)).map _ = (gD cs x).kids.map _
  rw [List.map_map]; rfl
 ·have hx' := rch_self hg hx
  have hy' := rch_self hg hy
  have e2 := mv_inj hu hl (h.firm hg hx) (h.firm hg hy) (hws x) (hws y) e
  rcases h.apart (i := x.toNat) (j := y.toNat) (by omega) (by omega) e2 with e | e
  ·left; omega
  ·exact .inr e
theorem ordered_all (ho : Ordered cs crs) : ∀ j : Nat, j < cs.length -> Rch (gD cs) crs (j : Int) := fun j => by
 induction j using Nat.strongRecOn with
 | _ j ih =>
  intro hj
  rcases ho.src j hj with e | ⟨i, hi, e⟩
  ·exact .root e
  ·refine .kid (ih i hi (by omega)) ?_
   show (j : Int) ∈ (cs.getD ((i : Int)).toNat default).kids
   rw [Int.toNat_natCast]; exact e
theorem objs_onto {ws : List Int} {cs : List Nd} : ∀ q, q <= cs.length -> ∀ k, k < (objsOf ws (cs.take q)).length -> ∃ i, i < q /\ 0 < sizeN (cs.getD i default) /\ (objsOf ws (cs.take i)).length = k
 | 0, _, k, hk => by simp [objsOf] at hk
 | q + 1, h, k, hk => by
  rw [objsOf_take (by omega), List.length_append] at hk
  by_cases h1 : k < (objsOf ws (cs.take q)).length
  ·obtain ⟨i, h2, h3⟩ := objs_onto q (by omega) k h1
   exact ⟨i, by omega, h3⟩
  ·by_cases hz : 0 < sizeN (cs.getD q default)
   ·rw [if_pos hz] at hk
    simp only [List.length_cons, List.length_nil] at hk
    exact ⟨q, by omega, hz, by omega⟩
   ·rw [if_neg hz] at hk
    simp only [List.length_nil] at hk
    omega
theorem keep_none : ∀ (os : List Ob), keepL os (List.replicate os.length false) = []
 | [] => rfl
 | x :: os => by
  have := keep_none os
  simp only [List.length_cons, List.replicate_succ, keepL]
  exact this
theorem keep_every : ∀ (os : List Ob), keepL os (List.replicate os.length true) = os
 | [] => rfl
 | x :: os => by
  have := keep_every os
  simp only [List.length_cons, List.replicate_succ, keepL, if_true]
  rw [this]
theorem PutOk.lvs (h : PutOk N os nm cs) (hg : goodG cs crs = true) (ho : Ordered cs crs) : lvL (pO nm os cs) (pR nm os cs crs) = List.replicate os.length false ++ List.replicate (objsOf (putS nm (usedL os) cs).ws cs).length true := by
 have hl := lvL_length (pO nm os cs) (pR nm os cs crs)
 have hlen : (pO nm os cs).length = os.length + (objsOf (putS nm (usedL os) cs).ws cs).length := List.length_append
 have key : ∀ k, k < (pO nm os cs).length -> ((lvL (pO nm os cs) (pR nm os cs crs)).getD k false = true ↔ os.length <= k) := fun k hk => by
  rw [lvL_iff]
  constructor
  ·intro hlv
   obtain ⟨x, hx, hsx, hfx⟩ := h.lives' hg hlv
   have hr := rch_self hg hx
   obtain ⟨k', hf', _, _, _, hk'⟩ := h.place (i := x.toNat) (by omega) hsx
   have : findM (pO nm os cs) (pW nm os cs x) = some k' := hf'
   rw [hfx] at this
   have e : k = k' := Option.some.inj this
   rw [e, hk', List.length_append]; omega
  ·intro hle
   have hk2 : k - os.length < (objsOf (putS nm (usedL os) cs).ws (cs.take cs.length)).length := by rw [List.take_length]; omega
   obtain ⟨i, hi, hz, hik⟩ := objs_onto (ws := (putS nm (usedL os) cs).ws) cs.length (Nat.le_refl _) (k - os.length) hk2
   obtain ⟨k', hf', _, _, _, hk'⟩ := h.place hi hz
   have e : k' = k := by rw [hk', List.length_append, hik]; omega
   subst e
   have hx := ordered_all ho i hi
   refine h.lives hg hx k' ?_
   show findM (pO nm os cs) ((putS nm (usedL os) cs).ws.getD ((i : Int)).toNat 0) = some k'
   rw [Int.toNat_natCast]; exact hf'
 apply List.ext_getElem
 ·rw [hl, hlen, List.length_append, List.length_replicate, List.length_replicate]
 ·intro k h1 h2
  have hk : k < (pO nm os cs).length := by rw [<- hl]; exact h1
  have e1 : (lvL (pO nm os cs) (pR nm os cs crs)).getD k false = (lvL (pO nm os cs) (pR nm os cs crs))[k] := by
   rw [List.getD_eq_getElem?_getD, List.getElem?_eq_getElem h1]; rfl
  have hkk := key k hk
  rw [e1] at hkk
  by_cases hle : os.length <= k
  ·rw [hkk.2 hle, List.getElem_append_right (by rw [List.length_replicate]; exact hle), List.getElem_replicate]
  ·rw [List.getElem_append_left (by rw [List.length_replicate]; omega), List.getElem_replicate]
   cases e : (lvL (pO nm os cs) (pR nm os cs crs))[k]
   ·rfl
   ·exact absurd (hkk.1 e) hle
theorem used_moved (h : PutOk N os nm cs) (hg : goodG cs crs = true) (ho : Ordered cs crs) : ((usedL (collO (pO nm os cs) (lvL (pO nm os cs) (pR nm os cs crs))) : Nat) : Int) = sumN cs := by
 rw [coll_used, h.lvs hg ho, keepL_append _ _ _ _ (by rw [List.length_replicate]), keep_none, keep_every, List.nil_append]
 have := objsOf_used (ws := (putS nm (usedL os) cs).ws) h.sz cs.length (Nat.le_refl _)
 rw [List.take_length] at this
 exact this
end
end Go.Proofs.YtadfihnffboelaaGreatDoor
