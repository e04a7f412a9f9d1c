import Derived.Test.YtadfihnffboelaaGreatDoorVM
import Derived.Test.YtadfihnffboelaaGreatDoorX3
set_option linter.unusedVariables false
set_option linter.unusedSimpArgs false
namespace Go.Proofs.YtadfihnffboelaaGreatDoor
open Go.RowKit
inductive Lv (os : List Ob) (rs : List Int) : Nat -> Prop
 | root {r : Int} {i : Nat} : r ∈ rs -> findM os r = some i -> Lv os rs i
 | step {i j : Nat} {z : Int} : Lv os rs i -> z ∈ (os.getD i default).f -> findM os z = some j -> Lv os rs j
open Classical in
noncomputable def lvB (os : List Ob) (rs : List Int) (i : Nat) : Bool := decide (Lv os rs i)
noncomputable def lvL (os : List Ob) (rs : List Int) : List Bool := (List.range os.length).map (lvB os rs)
theorem lvB_iff {os : List Ob} {rs : List Int} {i : Nat} : lvB os rs i = true ↔ Lv os rs i := by unfold lvB; simp
theorem Lv.lt {os : List Ob} {rs : List Int} {i : Nat} (h : Lv os rs i) : i < os.length := by
 cases h with
 | root _ h => exact (findM_lt h).1
 | step _ _ h => exact (findM_lt h).1
theorem lvL_length (os : List Ob) (rs : List Int) : (lvL os rs).length = os.length := by unfold lvL; simp
theorem lvL_get {os : List Ob} {rs : List Int} {i : Nat} (h : i < os.length) : (lvL os rs).getD i false = lvB os rs i := by
 unfold lvL; rw [List.getD_eq_getElem?_getD, List.getElem?_map, List.getElem?_range h]; rfl
theorem lvL_iff {os : List Ob} {rs : List Int} {i : Nat} : (lvL os rs).getD i false = true ↔ Lv os rs i := by
 by_cases h : i < os.length
 ·rw [lvL_get h, lvB_iff]
 ·constructor
  ·intro e
   rw [List.getD_eq_getElem?_getD, List.getElem?_eq_none (by rw [lvL_length]; omega)] at e; cases e
  ·intro e; exact absurd e.lt h
theorem lv_all {os : List Ob} {rs : List Int} {l : List Bool} (hl : l.length = os.length) (hs : ∀ i, l.getD i false = true -> Lv os rs i) (hr : ∀ r ∈ rs, ∀ i, findM os r = some i -> l.getD i false = true)
  (hc : ∀ i, l.getD i false = true -> ∀ z ∈ (os.getD i default).f, ∀ j, findM os z = some j -> l.getD j false = true) : l = lvL os rs := by
 have key : ∀ i, Lv os rs i -> l.getD i false = true := fun i h => by
  induction h with
  | root h1 h2 => exact hr _ h1 _ h2
  | step h1 h2 h3 ih => exact hc _ ih _ h2 _ h3
 apply List.ext_getElem?
 intro i
 by_cases h : i < os.length
 ·have e : l.getD i false = (lvL os rs).getD i false := by
   cases e1 : l.getD i false
   ·cases e2 : (lvL os rs).getD i false
    ·rfl
    ·have := key i (lvL_iff.1 e2); rw [e1] at this; cases this
   ·rw [lvL_iff.2 (hs i e1)]
  rw [List.getD_eq_getElem?_getD, List.getD_eq_getElem?_getD, List.getElem?_eq_getElem (by omega), List.getElem?_eq_getElem (by rw [lvL_length]; omega)] at e
  rw [List.getElem?_eq_getElem (by omega), List.getElem?_eq_getElem (by rw [lvL_length]; omega)]
  simpa using e
 ·rw [List.getElem?_eq_none (by omega), List.getElem?_eq_none (by rw [lvL_length]; omega)]
def keepL : List Ob -> List Bool -> List Ob
 | x :: os, b :: l => if b then x :: keepL os l else keepL os l
 | _, _ => []
theorem keepL_append : ∀ (a : List Ob) (l : List Bool) (b : List Ob) (m : List Bool), a.length = l.length -> keepL (a ++ b) (l ++ m) = keepL a l ++ keepL b m
 | [], [], b, m, _ => rfl
 | [], _ :: _, _, _, h => by simp at h
 | _ :: _, [], _, _, h => by simp at h
 | x :: a, c :: l, b, m, h => by
  have ih := keepL_append a l b m (by simpa using h)
  cases c <;> simp [keepL, ih]
def toM (os : List Ob) (l : List Bool) (i : Nat) : Nat := usedL (keepL (os.take i) (l.take i))
theorem toM_zero (os : List Ob) (l : List Bool) : toM os l 0 = 0 := by simp [toM, keepL, usedL]
theorem keep_succ {os : List Ob} {l : List Bool} {i : Nat} (h : i < os.length) (hl : l.length = os.length) : keepL (os.take (i + 1)) (l.take (i + 1)) = keepL (os.take i) (l.take i) ++ (if l.getD i false then [os.getD i default] else []) := by
 rw [List.take_succ_eq_append_getElem h, List.take_succ_eq_append_getElem (by omega), keepL_append _ _ _ _ (by rw [List.length_take, List.length_take]; omega)]
 congr 1
 rw [List.getD_eq_getElem?_getD, List.getD_eq_getElem?_getD, List.getElem?_eq_getElem h, List.getElem?_eq_getElem (by omega)]
 simp only [Option.getD_some, keepL]
theorem toM_succ {os : List Ob} {l : List Bool} {i : Nat} (h : i < os.length) (hl : l.length = os.length) : toM os l (i + 1) = toM os l i + (if l.getD i false then 1 + (os.getD i default).f.length else 0) := by
 unfold toM
 rw [keep_succ h hl, usedL_append]
 split <;> simp [usedL]
theorem keep_all (os : List Ob) (l : List Bool) (hl : l.length = os.length) : keepL (os.take os.length) (l.take os.length) = keepL os l := by
 rw [List.take_length, List.take_of_length_le (by omega)]
theorem toM_le {os : List Ob} {l : List Bool} (hl : l.length = os.length) {i : Nat} (h : i <= os.length) : toM os l i <= atO os i := by
 induction i with
 | zero => rw [toM_zero]; exact Nat.zero_le _
 | succ i ih =>
  rw [toM_succ (by omega) hl, at_succ (by omega)]
  have := ih (by omega)
  split <;> omega
def movedM (os : List Ob) (l : List Bool) (z : Int) : Int :=
 match findM os z with
 | some k => if l.getD k false then wordR 2 (toM os l k : Nat) 0 else z
 | none => z
def movOb (os : List Ob) (l : List Bool) (x : Ob) : Ob := { x with f := x.f.map (movedM os l) }
def collO (os : List Ob) (l : List Bool) : List Ob := (keepL os l).map (movOb os l)
def collR (os : List Ob) (l : List Bool) (rs : List Int) : List Int := rs.map (movedM os l)
theorem moved_u64 {os : List Ob} {l : List Bool} {z : Int} (h : U64 z) : U64 (movedM os l z) := by
 unfold movedM
 split
 ·split
  ·exact wordR_rng _ _ _
  ·exact h
 ·exact h
theorem used_map {os : List Ob} {g : Ob -> Ob} (h : ∀ x, (g x).f.length = x.f.length) : usedL (os.map g) = usedL os := by
 induction os with
 | nil => rfl
 | cons x l ih => simp only [List.map_cons, usedL, ih, h]
theorem coll_used (os : List Ob) (l : List Bool) : usedL (collO os l) = usedL (keepL os l) := used_map (fun x => by simp [movOb])
theorem keep_mem : ∀ {os : List Ob} {l : List Bool} {x : Ob}, x ∈ keepL os l -> x ∈ os
 | [], _, _, h => by simp [keepL] at h
 | _ :: _, [], _, h => by simp [keepL] at h
 | y :: os, b :: l, x, h => by
  cases b
  ·simp only [keepL] at h; exact List.mem_cons_of_mem _ (keep_mem h)
  ·simp only [keepL, if_true] at h
   rcases List.mem_cons.1 h with rfl | h
   ·exact List.mem_cons_self
   ·exact List.mem_cons_of_mem _ (keep_mem h)
theorem moved_head {os : List Ob} {l : List Bool} (hu : usedL os <= 1099511627776) (hl : l.length = os.length) {z : Int} (h : isHd z = false) : isHd (movedM os l z) = false := by
 unfold movedM
 split
 ·rename_i k hk
  have hk' := findM_lt hk
  split
  ·have h1 := toM_le hl (i := k) (by omega)
   have h2 := at_lt hk'.1
   unfold isHd
   rw [ptr_of (by omega)]; rfl
  ·exact h
 ·exact h
theorem coll_ok {os : List Ob} {l : List Bool} (ho : OsOk os) (hu : usedL os <= 1099511627776) (hl : l.length = os.length) : OsOk (collO os l) := by
 unfold collO
 refine ⟨fun x hx => ?_, fun x hx z hz => ?_, fun x hx z hz => ?_⟩ <;> obtain ⟨y, hy, rfl⟩ := List.mem_map.1 hx
 ·exact ho.kd y (keep_mem hy)
 ·simp only [movOb] at hz
  obtain ⟨z', hz', rfl⟩ := List.mem_map.1 hz
  exact moved_u64 (ho.uf y (keep_mem hy) z' hz')
 ·simp only [movOb] at hz
  obtain ⟨z', hz', rfl⟩ := List.mem_map.1 hz
  exact moved_head hu hl (ho.nh y (keep_mem hy) z' hz')
def cntB (l : List Bool) : Nat := (l.filter (fun b => !b)).length
theorem cnt_set : ∀ {l : List Bool} {i : Nat}, i < l.length -> l.getD i false = false -> cntB (l.set i true) + 1 = cntB l
 | [], _, h, _ => by simp at h
 | b :: l, 0, _, h => by
  have : b = false := h
  subst this
  simp [cntB]
 | b :: l, i + 1, h, h2 => by
  have ih := cnt_set (l := l) (i := i) (by simpa using h) (by simpa using h2)
  unfold cntB at *
  cases b <;> simp_all
theorem set_get_b {l : List Bool} {i j : Nat} (h : i < l.length) : (l.set i true).getD j false = if i = j then true else l.getD j false := by
 rw [List.getD_eq_getElem?_getD, List.getD_eq_getElem?_getD, List.getElem?_set]
 split
 ·rename_i e; subst e; simp [h]
 ·rfl
set_option maxRecDepth 100000
structure Mk (os : List Ob) (rs : List Int) (l : List Bool) (s : List Int) : Prop where
 len : l.length = os.length
 sd : ∀ i, l.getD i false = true -> Lv os rs i
 ss : ∀ z ∈ s, ∀ i, findM os z = some i -> Lv os rs i
 rt : ∀ r ∈ rs, ∀ i, findM os r = some i -> l.getD i false = true \/ r ∈ s
 cl : ∀ i, l.getD i false = true -> ∀ z ∈ (os.getD i default).f, ∀ j, findM os z = some j -> l.getD j false = true \/ z ∈ s
section
variable {os : List Ob} {rs : List Int} {l : List Bool} {s s' : List Int} {z : Int} {i : Nat}
theorem Mk.start (os : List Ob) (rs : List Int) : Mk os rs (List.replicate os.length false) rs := by
 have h0 : ∀ i, (List.replicate os.length false).getD i false = false := fun i => by
  rw [List.getD_eq_getElem?_getD, List.getElem?_replicate]; split <;> rfl
 exact ⟨by simp, fun i h => (by rw [h0] at h; cases h), fun z hz i hi => .root hz hi, fun r hr i _ => .inr hr, fun i h => (by rw [h0] at h; cases h)⟩
theorem Mk.drop (h : Mk os rs l s) (h1 : ∀ y ∈ s, y = z \/ y ∈ s') (h2 : ∀ y ∈ s', y ∈ s) (h3 : ∀ i, findM os z = some i -> l.getD i false = true) : Mk os rs l s' := by
 refine ⟨h.len, h.sd, fun y hy => h.ss y (h2 y hy), fun r hr i hi => ?_, fun i hb y hy j hj => ?_⟩
 ·rcases h.rt r hr i hi with e | e
  ·exact .inl e
  ·rcases h1 r e with e' | e'
   ·subst e'; exact .inl (h3 i hi)
   ·exact .inr e'
 ·rcases h.cl i hb y hy j hj with e | e
  ·exact .inl e
  ·rcases h1 y e with e' | e'
   ·subst e'; exact .inl (h3 j hj)
   ·exact .inr e'
theorem Mk.mark (h : Mk os rs l s) (hz : z ∈ s) (hi : findM os z = some i) (h1 : ∀ y ∈ s, y = z \/ y ∈ s') (h2 : ∀ y ∈ s', y ∈ s \/ y ∈ (os.getD i default).f)
  (h3 : ∀ y ∈ (os.getD i default).f, ∀ j, findM os y = some j -> (l.set i true).getD j false = true \/ y ∈ s') : Mk os rs (l.set i true) s' := by
 have hil := (findM_lt hi).1
 have hlv : Lv os rs i := h.ss z hz i hi
 have hset : ∀ j, (l.set i true).getD j false = true ↔ j = i \/ l.getD j false = true := fun j => by
  rw [set_get_b (by rw [h.len]; exact hil)]
  by_cases e : i = j
  ·subst e; simp
  ·rw [if_neg e]
   constructor
   ·exact fun h => .inr h
   ·rintro (h | h)
    ·exact absurd h.symm e
    ·exact h
 refine ⟨by rw [List.length_set]; exact h.len, fun j hj => ?_, fun y hy j hj => ?_, fun r hr j hj => ?_, fun j hb y hy k hk => ?_⟩
 ·rcases (hset j).1 hj with rfl | hj
  ·exact hlv
  ·exact h.sd j hj
 ·rcases h2 y hy with hy | hy
  ·exact h.ss y hy j hj
  ·exact .step hlv hy hj
 ·rcases h.rt r hr j hj with e | e
  ·exact .inl ((hset j).2 (.inr e))
  ·rcases h1 r e with e' | e'
   ·subst e'
    rw [hi] at hj
    cases hj
    exact .inl ((hset i).2 (.inl rfl))
   ·exact .inr e'
 ·rcases (hset j).1 hb with rfl | hb
  ·exact h3 y hy k hk
  ·rcases h.cl j hb y hy k hk with e | e
   ·exact .inl ((hset k).2 (.inr e))
   ·rcases h1 y e with e' | e'
    ·subst e'
     rw [hi] at hk
     cases hk
     exact .inl ((hset i).2 (.inl rfl))
    ·exact .inr e'
theorem Mk.done (h : Mk os rs l s) (hs : ∀ z ∈ s, ∀ i, findM os z = some i -> l.getD i false = true) : l = lvL os rs := by
 refine lv_all h.len h.sd (fun r hr i hi => ?_) (fun i hb z hz j hj => ?_)
 ·rcases h.rt r hr i hi with e | e
  ·exact e
  ·exact hs r e i hi
 ·rcases h.cl i hb z hz j hj with e | e
  ·exact e
  ·exact hs z e j hj
end
def cntM (os : List Ob) (l : List Bool) (q : Nat) : Nat := (keepL (os.take q) (l.take q)).length
theorem keep_split {os : List Ob} {l : List Bool} {q : Nat} (h : q < os.length) (hl : l.length = os.length) (hb : l.getD q false = true) : ∃ rest, keepL os l = keepL (os.take q) (l.take q) ++ (os.getD q default :: rest) := by
 have h1 : os = os.take (q + 1) ++ os.drop (q + 1) := (List.take_append_drop _ _).symm
 have h2 : l = l.take (q + 1) ++ l.drop (q + 1) := (List.take_append_drop _ _).symm
 refine ⟨keepL (os.drop (q + 1)) (l.drop (q + 1)), ?_⟩
 conv => lhs; rw [h1, h2]
 rw [keepL_append _ _ _ _ (by rw [List.length_take, List.length_take]; omega), keep_succ h hl, hb, if_pos rfl, List.append_assoc]; rfl
theorem coll_at {os : List Ob} {l : List Bool} {q : Nat} (h : q < os.length) (hl : l.length = os.length) (hb : l.getD q false = true) :
  cntM os l q < (collO os l).length /\ (collO os l).getD (cntM os l q) default = movOb os l (os.getD q default) /\ atO (collO os l) (cntM os l q) = toM os l q := by
 obtain ⟨rest, e⟩ := keep_split h hl hb
 have ec : collO os l = (keepL (os.take q) (l.take q)).map (movOb os l) ++ (movOb os l (os.getD q default) :: rest.map (movOb os l)) := by
  unfold collO; rw [e, List.map_append, List.map_cons]
 have hlen : ((keepL (os.take q) (l.take q)).map (movOb os l)).length = cntM os l q := by rw [List.length_map]; rfl
 refine ⟨?_, ?_, ?_⟩
 ·rw [ec, List.length_append, hlen, List.length_cons]; omega
 ·rw [ec, List.getD_eq_getElem?_getD, List.getElem?_append_right (by omega), hlen, Nat.sub_self]; rfl
 ·unfold atO toM
  rw [ec, List.take_append_of_le_length (by omega), List.take_of_length_le (by omega), used_map (fun x => by simp [movOb])]
theorem getD_set_i {l : List Int} {i j : Nat} {z : Int} (h : i < l.length) : (l.set i z).getD j 0 = if i = j then z else l.getD j 0 := by
 rw [List.getD_eq_getElem?_getD, List.getD_eq_getElem?_getD, List.getElem?_set]
 split
 ·rename_i e; subst e; simp [h]
 ·rfl
structure Sld (C O : List Int) (p q : Nat) (ws : List Int) : Prop where
 len : ws.length = O.length
 le : p <= q
 lo : ∀ i, i < p -> ws.getD i 0 = C.getD i 0
 hi : ∀ i, q <= i -> ws.getD i 0 = O.getD i 0
theorem Sld.start (C O : List Int) : Sld C O 0 0 O := ⟨rfl, Nat.le_refl _, fun i hi => by omega, fun i _ => rfl⟩
theorem Sld.put {C O ws : List Int} {p q : Nat} {z : Int} (h : Sld C O p q ws) (hq : q < O.length) (hz : z = C.getD p 0) : Sld C O (p + 1) (q + 1) (ws.set p z) := by
 have hl := h.len
 have hle := h.le
 refine ⟨by rw [List.length_set]; exact hl, by omega, fun i hi => ?_, fun i hi => ?_⟩
 ·rw [getD_set_i (by omega)]
  split
  ·rename_i e; subst e; exact hz
  ·exact h.lo i (by omega)
 ·rw [getD_set_i (by omega), if_neg (by omega)]
  exact h.hi i (by omega)
theorem Sld.skip {C O ws : List Int} {p q r : Nat} (h : Sld C O p q ws) (hr : q <= r) : Sld C O p r ws := ⟨h.len, Nat.le_trans h.le hr, h.lo, fun i hi => h.hi i (by omega)⟩
theorem Sld.done {C O ws : List Int} {q : Nat} (h : Sld C O C.length q ws) (hC : C.length <= O.length) : ws.take C.length = C := by
 have hl := h.len
 apply List.ext_getElem
 ·rw [List.length_take]; omega
 ·intro i h1 h2
  have := h.lo i h2
  rw [List.getD_eq_getElem?_getD, List.getD_eq_getElem?_getD, List.getElem?_eq_getElem (by omega), List.getElem?_eq_getElem h2] at this
  rw [List.getElem_take]
  simpa using this
section
variable {os : List Ob} {l : List Bool}
theorem coll_head {i : Nat} (h : i < os.length) (hl : l.length = os.length) (hb : l.getD i false = true) : (wordsL (collO os l)).getD (toM os l i) 0 = wordR 8 ((os.getD i default).f.length : Nat) (os.getD i default).kind := by
 obtain ⟨h1, h2, h3⟩ := coll_at h hl hb
 have := word_head h1
 rw [h3, h2] at this
 rw [this]
 simp [movOb]
theorem coll_field {i j : Nat} (h : i < os.length) (hl : l.length = os.length) (hb : l.getD i false = true) (hj : j < (os.getD i default).f.length) : (wordsL (collO os l)).getD (toM os l i + 1 + j) 0 = movedM os l ((os.getD i default).f.getD j 0) := by
 obtain ⟨h1, h2, h3⟩ := coll_at h hl hb
 have := word_field (j := j) h1 (by rw [h2]; simp [movOb]; exact hj)
 rw [h3, h2] at this
 rw [this]
 generalize os.getD i default = x at hj ⊢
 simp only [movOb]
 rw [List.getD_eq_getElem?_getD, List.getElem?_map, List.getD_eq_getElem?_getD, List.getElem?_eq_getElem hj]
 rfl
theorem coll_len (hl : l.length = os.length) : (wordsL (collO os l)).length = toM os l os.length := by
 rw [wordsL_length, coll_used]
 unfold toM
 rw [keep_all os l hl]
theorem coll_le (hl : l.length = os.length) : (wordsL (collO os l)).length <= (wordsL os).length := by
 rw [coll_len hl, wordsL_length, <- at_all]
 exact toM_le hl (Nat.le_refl _)
theorem Sld.obj_no {O ws : List Int} {i : Nat} (h : i < os.length) (hl : l.length = os.length) (hb : l.getD i false = false) (hs : Sld (wordsL (collO os l)) O (toM os l i) (atO os i) ws) : Sld (wordsL (collO os l)) O (toM os l (i + 1)) (atO os (i + 1)) ws := by
 have e : toM os l (i + 1) = toM os l i := by rw [toM_succ h hl, hb]; simp
 rw [e]
 exact hs.skip (by rw [at_succ h]; omega)
theorem Sld.obj_yes {O ws : List Int} {i : Nat} (h : i < os.length) (hl : l.length = os.length) (hb : l.getD i false = true) (hs : Sld (wordsL (collO os l)) O (toM os l i + 1 + (os.getD i default).f.length) (atO os i + 1 + (os.getD i default).f.length) ws) : Sld (wordsL (collO os l)) O (toM os l (i + 1)) (atO os (i + 1)) ws := by
 have e : toM os l (i + 1) = toM os l i + 1 + (os.getD i default).f.length := by rw [toM_succ h hl, hb]; simp; omega
 rw [e, at_succ h]
 exact hs
end
def textOf (l : List Nat) : ByteArray := ⟨(l.map UInt8.ofNat).toArray⟩
theorem bs_textOf {l : List Nat} (h : ∀ x ∈ l, x < 256) : bs (textOf l) = l := by
 unfold bs textOf
 rw [List.toList_toArray, List.map_map]
 conv => rhs; rw [<- List.map_id l]
 refine List.map_congr_left (fun x hx => ?_)
 show (UInt8.ofNat x).toNat = x
 rw [UInt8.toNat_ofNat']
 exact Nat.mod_eq_of_lt (h x hx)
theorem bs_byte (s : ByteArray) : ∀ x ∈ bs s, x < 256 := fun x hx => by
 unfold bs at hx
 obtain ⟨u, _, rfl⟩ := List.mem_map.1 hx
 exact UInt8.toNat_lt u
theorem textOf_bs (s : ByteArray) : textOf (bs s) = s := by
 unfold bs textOf
 rw [List.map_map]
 have : (UInt8.ofNat ∘ UInt8.toNat) = id := by funext u; simp
 rw [this, List.map_id]
def symT (nm : List ByteArray) (x : Int) : ByteArray := nm.getD (nN x).toNat ByteArray.empty
def symB (nm : List ByteArray) (x : Int) : Bool := decide (nK x = 5) && (decide (nN x < nm.length) && textB 6 (symT nm x))
def namB (nm : List ByteArray) (x : Int) : Bool := decide (nK x = 5) && (decide (nN x < nm.length) && textB 15 (symT nm x))
def plainD (nm : List ByteArray) (x : Int) : Nd :=
 if nK x = 1 then ⟨3, 0, textOf (printL (decide (nN x < 0)) (nN x).natAbs), []⟩
 else if nK x = 3 then (if nN x = 0 then ⟨1, 0, ByteArray.empty, []⟩ else if nN x = 1 \/ nN x = 2 then ⟨2, nN x - 1, ByteArray.empty, []⟩ else if nN x = 3 then ⟨10, 0, ByteArray.empty, []⟩ else voidN)
 else if nK x = 4 then ⟨4, nN x, ByteArray.empty, []⟩
 else if symB nm x = true then ⟨6, 0, symT nm x, []⟩
 else if nK x = 6 then ⟨12, 0, ByteArray.empty, []⟩ else voidN
def recB (os : List Ob) (nm : List ByteArray) (x : Int) : Bool := match findM os x with
 | some k => decide ((os.getD k default).kind = 13) && (decide (0 < (os.getD k default).f.length) && namB nm ((os.getD k default).f.getD 0 0))
 | none => false
def recT (os : List Ob) (nm : List ByteArray) (x : Int) : ByteArray := match findM os x with
 | some k => symT nm ((os.getD k default).f.getD 0 0)
 | none => ByteArray.empty
def recordT : ByteArray := textOf [114, 101, 99, 111, 114, 100, 45, 116, 121, 112, 101]
def tableT : ByteArray := textOf [116, 97, 98, 108, 101]
def condB (f : List Int) : Bool := decide (f.length = 3) && (decide (nK (f.getD 0 0) = 1) && (decide (0 <= nN (f.getD 0 0)) && decide (nN (f.getD 0 0) <= 2)))
def objD (os : List Ob) (nm : List ByteArray) (kd : Int) (f : List Int) : Nd :=
 if kd = 1 then (if f.length = 2 then ⟨7, 0, ByteArray.empty, f⟩ else voidN)
 else if kd = 2 then (if f.length <= 1024 then ⟨8, 0, ByteArray.empty, f⟩ else voidN)
 else if kd = 3 then (if (f.all lrB && decide (f.length <= 1024)) = true then ⟨5, 0, textOf (lrT f), []⟩ else voidN)
 else if kd = 4 then (if (f.all byB && decide (f.length <= 1024)) = true then ⟨9, 0, textOf (byT f), []⟩ else voidN)
 else if kd = 5 then (if bigB f = true then ⟨3, 0, textOf (printL (numNeg f) (val B32 (numMag f))), []⟩ else voidN)
 else if kd = 12 then (if condB f = true then ⟨13, nN (f.getD 0 0), ByteArray.empty, f.drop 1⟩ else voidN)
 else if kd = 14 then (if (decide (0 < f.length) && recB os nm (f.getD 0 0)) = true then ⟨15, 0, recT os nm (f.getD 0 0), f.drop 1⟩ else voidN)
 else if kd = 11 then ⟨14, 0, ByteArray.empty, []⟩
 else if kd = 19 then ⟨17, 0, ByteArray.empty, []⟩
 else if kd = 18 then ⟨16, 0, ByteArray.empty, f⟩
 else if kd = 13 then ⟨15, 0, recordT, []⟩
 else if kd = 22 then ⟨15, 0, tableT, []⟩
 else if kd = 6 \/ kd = 17 \/ kd = 16 \/ kd = 15 then ⟨12, 0, ByteArray.empty, []⟩
 else voidN
def wordD (os : List Ob) (nm : List ByteArray) (x : Int) : Nd := match findM os x with
 | some k => objD os nm (os.getD k default).kind (os.getD k default).f
 | none => plainD nm x
theorem find_place {os : List Ob} {x : Int} {k : Nat} (h : findM os x = some k) : nK x = 2 := by
 unfold findM at h
 split at h
 ·assumption
 ·cases h
theorem find_not {os : List Ob} {x : Int} (h : nK x ≠ 2) : findM os x = none := by
 cases e : findM os x with
 | none => rfl
 | some k => exact absurd (find_place e) h
section
variable {os : List Ob} {l : List Bool} {nm : List ByteArray}
theorem mv_same {x : Int} (h : nK x ≠ 2) : movedM os l x = x := by
 unfold movedM; rw [find_not h]
theorem mv_kind (hu : usedL os <= 1099511627776) (hl : l.length = os.length) {x : Int} (h : nK x = 2) : nK (movedM os l x) = 2 := by
 unfold movedM
 split
 ·rename_i k hk
  have hk' := findM_lt hk
  split
  ·have h1 := toM_le hl (i := k) (by omega)
   have h2 := at_lt hk'.1
   unfold nK
   rw [ptr_of (by omega)]
  ·exact h
 ·exact h
theorem mv_all (hu : usedL os <= 1099511627776) (hl : l.length = os.length) {p : Int -> Bool} (hp : ∀ x, nK x = 2 -> p x = false) (f : List Int) : (f.map (movedM os l)).all p = f.all p /\ (f.all p = true -> f.map (movedM os l) = f) := by
 have h1 : ∀ x, p (movedM os l x) = p x := fun x => by
  by_cases e : nK x = 2
  ·rw [hp x e, hp _ (mv_kind hu hl e)]
  ·rw [mv_same e]
 refine ⟨by rw [List.all_map]; congr 1; funext x; exact h1 x, fun h => ?_⟩
 conv => rhs; rw [<- List.map_id f]
 refine List.map_congr_left (fun x hx => ?_)
 have := List.all_eq_true.1 h x hx
 exact mv_same (fun e => by rw [hp x e] at this; cases this)
theorem mv_get (f : List Int) (hz : movedM os l 0 = 0) (i : Nat) : (f.map (movedM os l)).getD i 0 = movedM os l (f.getD i 0) := by
 rw [List.getD_eq_getElem?_getD, List.getElem?_map, List.getD_eq_getElem?_getD]
 cases h : f[i]? with
 | none => exact hz.symm
 | some y => rfl
theorem nK_zero : nK 0 ≠ 2 := by unfold nK; decide
theorem mv_nam (hu : usedL os <= 1099511627776) (hl : l.length = os.length) (x : Int) : namB nm (movedM os l x) = namB nm x /\ (namB nm x = true -> symT nm (movedM os l x) = symT nm x) := by
 by_cases e : nK x = 2
 ·have h2 := mv_kind hu hl e
  refine ⟨?_, fun h => ?_⟩
  ·unfold namB; rw [h2, e]; rfl
  ·unfold namB at h; rw [e] at h; simp at h
 ·rw [mv_same e]; exact ⟨rfl, fun _ => rfl⟩
def Firm (os : List Ob) (l : List Bool) (x : Int) : Prop := nK x = 2 -> ∃ k, findM os x = some k /\ l.getD k false = true
theorem find_moved (hu : usedL os <= 1099511627776) (hl : l.length = os.length) {x : Int} {k : Nat} (hf : findM os x = some k) (hb : l.getD k false = true) : ∃ j, findM (collO os l) (movedM os l x) = some j /\ (collO os l).getD j default = movOb os l (os.getD k default) := by
 have hk := (findM_lt hf).1
 obtain ⟨c1, c2, c3⟩ := coll_at hk hl hb
 have e : movedM os l x = wordR 2 (toM os l k : Nat) 0 := by unfold movedM; rw [hf]; simp only [hb, if_true]
 refine ⟨cntM os l k, ?_, c2⟩
 rw [e, <- c3]
 exact find_ptr c1 (by
  have := coll_used os l
  have h2 : usedL (keepL os l) <= usedL os := by
   have := toM_le hl (Nat.le_refl os.length)
   unfold toM at this
   rw [keep_all os l hl, at_all] at this
   exact this
  omega)
theorem mv_rec (hu : usedL os <= 1099511627776) (hl : l.length = os.length) {x : Int} (hx : Firm os l x) (hz : movedM os l 0 = 0) : recB (collO os l) nm (movedM os l x) = recB os nm x /\ (recB os nm x = true -> recT (collO os l) nm (movedM os l x) = recT os nm x) := by
 by_cases e : nK x = 2
 ·obtain ⟨k, hf, hb⟩ := hx e
  obtain ⟨j, h1, h2⟩ := find_moved hu hl hf hb
  have h3 : (movOb os l (os.getD k default)).f = (os.getD k default).f.map (movedM os l) := rfl
  have h4 : (movOb os l (os.getD k default)).kind = (os.getD k default).kind := rfl
  have e1 : recB (collO os l) nm (movedM os l x) = recB os nm x := by
   unfold recB
   rw [h1, hf]
   simp only [h2, h3, h4, List.length_map]
   rw [mv_get _ hz, (mv_nam hu hl _).1]
  refine ⟨e1, fun h => ?_⟩
  unfold recB at h
  rw [hf] at h
  simp only [Bool.and_eq_true] at h
  unfold recT
  rw [h1, hf]
  simp only [h2, h3]
  rw [mv_get _ hz, (mv_nam hu hl _).2 h.2.2]
 ·rw [mv_same e]
  have a1 : findM os x = none := find_not e
  have a2 : findM (collO os l) x = none := find_not e
  unfold recB recT
  rw [a1, a2]
  exact ⟨rfl, fun _ => rfl⟩
section
variable {os : List Ob} {nm : List ByteArray} {f : List Int}
theorem objD_1 : objD os nm 1 f = if f.length = 2 then ⟨7, 0, ByteArray.empty, f⟩ else voidN := rfl
theorem objD_2 : objD os nm 2 f = if f.length <= 1024 then ⟨8, 0, ByteArray.empty, f⟩ else voidN := rfl
theorem objD_3 : objD os nm 3 f = if (f.all lrB && decide (f.length <= 1024)) = true then ⟨5, 0, textOf (lrT f), []⟩ else voidN := rfl
theorem objD_4 : objD os nm 4 f = if (f.all byB && decide (f.length <= 1024)) = true then ⟨9, 0, textOf (byT f), []⟩ else voidN := rfl
theorem objD_5 : objD os nm 5 f = if bigB f = true then ⟨3, 0, textOf (printL (numNeg f) (val B32 (numMag f))), []⟩ else voidN := rfl
theorem objD_12 : objD os nm 12 f = if condB f = true then ⟨13, nN (f.getD 0 0), ByteArray.empty, f.drop 1⟩ else voidN := rfl
theorem objD_14 : objD os nm 14 f = if (decide (0 < f.length) && recB os nm (f.getD 0 0)) = true then ⟨15, 0, recT os nm (f.getD 0 0), f.drop 1⟩ else voidN := rfl
theorem objD_o {kd : Int} (k1 : kd ≠ 1) (k2 : kd ≠ 2) (k3 : kd ≠ 3) (k4 : kd ≠ 4) (k5 : kd ≠ 5) (k12 : kd ≠ 12) (k14 : kd ≠ 14) : objD os nm kd f =
  if kd = 11 then ⟨14, 0, ByteArray.empty, []⟩ else if kd = 19 then ⟨17, 0, ByteArray.empty, []⟩ else if kd = 18 then ⟨16, 0, ByteArray.empty, f⟩ else if kd = 13 then ⟨15, 0, recordT, []⟩ else if kd = 22 then ⟨15, 0, tableT, []⟩
  else if kd = 6 \/ kd = 17 \/ kd = 16 \/ kd = 15 then ⟨12, 0, ByteArray.empty, []⟩ else voidN := by
 unfold objD
 rw [if_neg k1, if_neg k2, if_neg k3, if_neg k4, if_neg k5, if_neg k12, if_neg k14]
end
theorem mv_obj (hu : usedL os <= 1099511627776) (hl : l.length = os.length) {kd : Int} {f : List Int} (hf : ∀ x ∈ f, Firm os l x) :
  objD (collO os l) nm kd (f.map (movedM os l)) = { objD os nm kd f with kids := (objD os nm kd f).kids.map (movedM os l) } := by
 have hz : movedM os l 0 = 0 := mv_same nK_zero
 have hlr := mv_all hu hl (p := lrB) (fun x e => by unfold lrB; rw [e]; rfl) f
 have hby := mv_all hu hl (p := byB) (fun x e => by unfold byB; rw [e]; rfl) f
 have hlm := mv_all hu hl (p := limbB) (fun x e => by unfold limbB; rw [e]; rfl) f
 have hdrop : (f.map (movedM os l)).drop 1 = (f.drop 1).map (movedM os l) := (List.map_drop).symm
 have hbig : bigB (f.map (movedM os l)) = bigB f /\ (bigB f = true -> f.map (movedM os l) = f) := by
  by_cases e : f.all limbB = true
  ·rw [hlm.2 e]; exact ⟨rfl, fun _ => rfl⟩
  ·have e' : f.all limbB = false := by simpa using e
   have b1 : bigB f = false := by unfold bigB; rw [e']; simp
   have b2 : bigB (f.map (movedM os l)) = false := by unfold bigB; rw [hlm.1, e']; simp
   rw [b1, b2]; exact ⟨rfl, fun h => by cases h⟩
 have h0 := mv_get (l := l) f hz 0
 have hcond : condB (f.map (movedM os l)) = condB f /\ (condB f = true -> nN ((f.map (movedM os l)).getD 0 0) = nN (f.getD 0 0)) := by
  unfold condB
  rw [h0, List.length_map]
  by_cases e : nK (f.getD 0 0) = 2
  ·rw [mv_kind hu hl e, e]; exact ⟨rfl, fun h => by simp at h⟩
  ·rw [mv_same e]; exact ⟨rfl, fun _ => rfl⟩
 have hfirm : 0 < f.length -> Firm os l (f.getD 0 0) := fun h => hf _ (getD_mem_w h)
 have hrec : (decide (0 < f.length) && recB (collO os l) nm ((f.map (movedM os l)).getD 0 0)) = (decide (0 < f.length) && recB os nm (f.getD 0 0)) /\ ((decide (0 < f.length) && recB os nm (f.getD 0 0)) = true -> recT (collO os l) nm ((f.map (movedM os l)).getD 0 0) = recT os nm (f.getD 0 0)) := by
  rw [h0]
  by_cases e : 0 < f.length
  ·have := mv_rec (nm := nm) hu hl (hfirm e) hz
   rw [decide_eq_true e, this.1]
   exact ⟨rfl, fun h => this.2 (by simpa using h)⟩
  ·rw [decide_eq_false e]; exact ⟨rfl, fun h => by cases h⟩
 by_cases k1 : kd = 1
 ·subst k1
  rw [objD_1, objD_1, List.length_map]
  split <;> rfl
 by_cases k2 : kd = 2
 ·subst k2
  rw [objD_2, objD_2, List.length_map]
  split <;> rfl
 by_cases k3 : kd = 3
 ·subst k3
  rw [objD_3, objD_3, hlr.1, List.length_map]
  by_cases h : (f.all lrB && decide (f.length <= 1024)) = true
  ·rw [if_pos h, if_pos h, hlr.2 (by rw [Bool.and_eq_true] at h; exact h.1)]; rfl
  ·rw [if_neg h, if_neg h]; rfl
 by_cases k4 : kd = 4
 ·subst k4
  rw [objD_4, objD_4, hby.1, List.length_map]
  by_cases h : (f.all byB && decide (f.length <= 1024)) = true
  ·rw [if_pos h, if_pos h, hby.2 (by rw [Bool.and_eq_true] at h; exact h.1)]; rfl
  ·rw [if_neg h, if_neg h]; rfl
 by_cases k5 : kd = 5
 ·subst k5
  rw [objD_5, objD_5, hbig.1]
  by_cases h : bigB f = true
  ·rw [if_pos h, if_pos h, hbig.2 h]; rfl
  ·rw [if_neg h, if_neg h]; rfl
 by_cases k12 : kd = 12
 ·subst k12
  rw [objD_12, objD_12, hcond.1]
  by_cases h : condB f = true
  ·rw [if_pos h, if_pos h, hcond.2 h, hdrop]
  ·rw [if_neg h, if_neg h]; rfl
 by_cases k14 : kd = 14
 ·subst k14
  rw [objD_14, objD_14, List.length_map, hrec.1]
  by_cases h : (decide (0 < f.length) && recB os nm (f.getD 0 0)) = true
  ·rw [if_pos h, if_pos h, hrec.2 h, hdrop]
  ·rw [if_neg h, if_neg h]; rfl
 rw [objD_o (f := f.map (movedM os l)) k1 k2 k3 k4 k5 k12 k14, objD_o (f := f) k1 k2 k3 k4 k5 k12 k14]
 by_cases k11 : kd = 11
 ·rw [if_pos k11, if_pos k11]; rfl
 rw [if_neg k11, if_neg k11]
 by_cases k19 : kd = 19
 ·rw [if_pos k19, if_pos k19]; rfl
 rw [if_neg k19, if_neg k19]
 by_cases k18 : kd = 18
 ·rw [if_pos k18, if_pos k18]
 rw [if_neg k18, if_neg k18]
 by_cases k13 : kd = 13
 ·rw [if_pos k13]; rfl
 rw [if_neg k13]
 by_cases k22 : kd = 22
 ·rw [if_pos k22]; rfl
 rw [if_neg k22]
 by_cases k6 : kd = 6 \/ kd = 17 \/ kd = 16 \/ kd = 15
 ·rw [if_pos k6]; rfl
 ·rw [if_neg k6]; rfl
theorem mv_word (hu : usedL os <= 1099511627776) (hl : l.length = os.length) (hc : ∀ k, k < os.length -> l.getD k false = true -> ∀ x ∈ (os.getD k default).f, Firm os l x) {x : Int} (hx : Firm os l x) :
  wordD (collO os l) nm (movedM os l x) = { wordD os nm x with kids := (wordD os nm x).kids.map (movedM os l) } := by
 by_cases e : nK x = 2
 ·obtain ⟨k, hf, hb⟩ := hx e
  obtain ⟨j, h1, h2⟩ := find_moved hu hl hf hb
  unfold wordD
  rw [h1, hf]
  simp only [h2]
  exact mv_obj hu hl (hc k (findM_lt hf).1 hb)
 ·rw [mv_same e]
  have a1 : findM os x = none := find_not e
  have a2 : findM (collO os l) x = none := find_not e
  unfold wordD
  rw [a1, a2]
  simp only
  have : (plainD nm x).kids = [] := by
   unfold plainD
   repeat' split
   all_goals rfl
  rw [this]
  exact nd_ext rfl rfl rfl this
end
end Go.Proofs.YtadfihnffboelaaGreatDoor
