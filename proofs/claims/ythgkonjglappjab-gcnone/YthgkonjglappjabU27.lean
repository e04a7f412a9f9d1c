/-
  Mathematics: the row of lengths; marking by a stack.
-/
import Derived.Test.YthgkonjglappjabU1
set_option linter.unusedVariables false
set_option linter.unusedSimpArgs false
set_option maxRecDepth 100000
namespace Go.Proofs.Ythgkonjglappjab
open Go.RowKit

/-- Marks and what is still to be looked at, in whatever order. -/
structure Mk (os : List Ob) (rs : List Int) (l : List Bool) (s : List Int) : Prop where
  len : l.length = os.length
  sd : ∀ i, l.getD i false = true → Lv os rs i
  ss : ∀ z ∈ s, ∀ i, findM os z = some i → Lv os rs i
  rt : ∀ r ∈ rs, ∀ i, findM os r = some i → l.getD i false = true ∨ r ∈ s
  cl : ∀ i, l.getD i false = true → ∀ z ∈ (os.getD i default).f, ∀ j, findM os z = some j → l.getD j false = true ∨ z ∈ s
section
variable {os : List Ob} {rs : List Int} {l : List Bool} {s s' : List Int} {z : Int} {i : Nat}
theorem Mk.start (os : List Ob) (rs : List Int) : Mk os rs (List.replicate os.length false) rs := by
  have h0 : ∀ i, (List.replicate os.length false).getD i false = false := fun i => by
    rw [List.getD_eq_getElem?_getD, List.getElem?_replicate]; split <;> rfl
  exact ⟨by simp, fun i h => (by rw [h0] at h; cases h), fun z hz i hi => .root hz hi, fun r hr i _ => .inr hr, fun i h => (by rw [h0] at h; cases h)⟩
/-- A word that says nothing, or what is marked, is passed by. -/
theorem Mk.drop (h : Mk os rs l s) (h1 : ∀ y ∈ s, y = z ∨ y ∈ s') (h2 : ∀ y ∈ s', y ∈ s) (h3 : ∀ i, findM os z = some i → l.getD i false = true) : Mk os rs l s' := by
  refine ⟨h.len, h.sd, fun y hy => h.ss y (h2 y hy), fun r hr i hi => ?_, fun i hb y hy j hj => ?_⟩
  · rcases h.rt r hr i hi with e | e
    · exact .inl e
    · rcases h1 r e with e' | e'
      · subst e'; exact .inl (h3 i hi)
      · exact .inr e'
  · rcases h.cl i hb y hy j hj with e | e
    · exact .inl e
    · rcases h1 y e with e' | e'
      · subst e'; exact .inl (h3 j hj)
      · exact .inr e'
/-- An object is marked; its fields are looked at. -/
theorem Mk.mark (h : Mk os rs l s) (hz : z ∈ s) (hi : findM os z = some i) (h1 : ∀ y ∈ s, y = z ∨ y ∈ s') (h2 : ∀ y ∈ s', y ∈ s ∨ y ∈ (os.getD i default).f)
    (h3 : ∀ y ∈ (os.getD i default).f, ∀ j, findM os y = some j → (l.set i true).getD j false = true ∨ y ∈ s') : Mk os rs (l.set i true) s' := by
  have hil := (findM_lt hi).1
  have hlv : Lv os rs i := h.ss z hz i hi
  have hset : ∀ j, (l.set i true).getD j false = true ↔ j = i ∨ l.getD j false = true := fun j => by
    rw [set_get_b (by rw [h.len]; exact hil)]
    by_cases e : i = j
    · subst e; simp
    · rw [if_neg e]
      constructor
      · exact fun h => .inr h
      · rintro (h | h)
        · exact absurd h.symm e
        · exact h
  refine ⟨by rw [List.length_set]; exact h.len, fun j hj => ?_, fun y hy j hj => ?_, fun r hr j hj => ?_, fun j hb y hy k hk => ?_⟩
  · rcases (hset j).1 hj with rfl | hj
    · exact hlv
    · exact h.sd j hj
  · rcases h2 y hy with hy | hy
    · exact h.ss y hy j hj
    · exact .step hlv hy hj
  · rcases h.rt r hr j hj with e | e
    · exact .inl ((hset j).2 (.inr e))
    · rcases h1 r e with e' | e'
      · subst e'
        rw [hi] at hj
        cases hj
        exact .inl ((hset i).2 (.inl rfl))
      · exact .inr e'
  · rcases (hset j).1 hb with rfl | hb
    · exact h3 y hy k hk
    · rcases h.cl j hb y hy k hk with e | e
      · exact .inl ((hset k).2 (.inr e))
      · rcases h1 y e with e' | e'
        · subst e'
          rw [hi] at hk
          cases hk
          exact .inl ((hset i).2 (.inl rfl))
        · exact .inr e'
theorem Mk.done (h : Mk os rs l s) (hs : ∀ z ∈ s, ∀ i, findM os z = some i → l.getD i false = true) : l = lvL os rs := by
  refine lv_all h.len h.sd (fun r hr i hi => ?_) (fun i hb z hz j hj => ?_)
  · rcases h.rt r hr i hi with e | e
    · exact e
    · exact hs r e i hi
  · rcases h.cl i hb z hz j hj with e | e
    · exact e
    · exact hs z e j hj
end
/-- What is still to be marked, with its fields. -/
def wtM : List Ob → List Bool → Nat
  | x :: os, b :: l => (if b then 0 else 1 + x.f.length) + wtM os l
  | _, _ => 0
theorem wt_set : ∀ {os : List Ob} {l : List Bool} {i : Nat}, i < os.length → l.length = os.length → l.getD i false = false → wtM os (l.set i true) + (1 + (os.getD i default).f.length) = wtM os l
  | [], _, _, h, _, _ => by simp at h
  | _ :: _, [], _, _, h, _ => by simp at h
  | x :: os, b :: l, 0, _, _, h => by
    have : b = false := h
    subst this
    simp [wtM]; omega
  | x :: os, b :: l, i + 1, h1, h2, h3 => by
    have ih := wt_set (os := os) (l := l) (i := i) (by simpa using h1) (by simpa using h2) (by simpa using h3)
    simp only [List.set_cons_succ, wtM, List.getD_cons_succ]
    omega
theorem wt_le : ∀ (os : List Ob) (l : List Bool), wtM os l ≤ usedL os
  | [], _ => by simp [wtM]
  | _ :: _, [] => by simp [wtM]
  | x :: os, b :: l => by
    have := wt_le os l
    simp only [wtM, usedL]
    split <;> omega
end Go.Proofs.Ythgkonjglappjab

set_option linter.unusedVariables false
set_option linter.unusedSimpArgs false
set_option maxRecDepth 100000
namespace Go.Proofs.Ythgkonjglappjab
open Go.RowKit

/-- How many of the first ones are kept. -/
def cntM (os : List Ob) (l : List Bool) (q : Nat) : Nat := (keepL (os.take q) (l.take q)).length
theorem cntM_succ {os : List Ob} {l : List Bool} {q : Nat} (h : q < os.length) (hl : l.length = os.length) : cntM os l (q + 1) = cntM os l q + (if l.getD q false then 1 else 0) := by
  unfold cntM
  rw [keep_succ h hl, List.length_append]
  split <;> rfl
theorem cntM_all {os : List Ob} {l : List Bool} (hl : l.length = os.length) : cntM os l os.length = (collO os l).length := by
  unfold cntM collO
  rw [keep_all os l hl, List.length_map]
theorem keep_split {os : List Ob} {l : List Bool} {q : Nat} (h : q < os.length) (hl : l.length = os.length) (hb : l.getD q false = true) : ∃ rest, keepL os l = keepL (os.take q) (l.take q) ++ (os.getD q default :: rest) := by
  have h1 : os = os.take (q + 1) ++ os.drop (q + 1) := (List.take_append_drop _ _).symm
  have h2 : l = l.take (q + 1) ++ l.drop (q + 1) := (List.take_append_drop _ _).symm
  refine ⟨keepL (os.drop (q + 1)) (l.drop (q + 1)), ?_⟩
  conv => lhs; rw [h1, h2]
  rw [keepL_append _ _ _ _ (by rw [List.length_take, List.length_take]; omega), keep_succ h hl, hb, if_pos rfl, List.append_assoc]; rfl
theorem coll_at {os : List Ob} {l : List Bool} {q : Nat} (h : q < os.length) (hl : l.length = os.length) (hb : l.getD q false = true) :
    cntM os l q < (collO os l).length ∧ (collO os l).getD (cntM os l q) default = movOb os l (os.getD q default) ∧ atO (collO os l) (cntM os l q) = toM os l q := by
  obtain ⟨rest, e⟩ := keep_split h hl hb
  have ec : collO os l = (keepL (os.take q) (l.take q)).map (movOb os l) ++ (movOb os l (os.getD q default) :: rest.map (movOb os l)) := by
    unfold collO; rw [e, List.map_append, List.map_cons]
  have hlen : ((keepL (os.take q) (l.take q)).map (movOb os l)).length = cntM os l q := by rw [List.length_map]; rfl
  refine ⟨?_, ?_, ?_⟩
  · rw [ec, List.length_append, hlen, List.length_cons]; omega
  · rw [ec, List.getD_eq_getElem?_getD, List.getElem?_append_right (by omega), hlen, Nat.sub_self]; rfl
  · unfold atO toM
    rw [ec, List.take_append_of_le_length (by omega), List.take_of_length_le (by omega), used_map (fun x => by simp [movOb])]
theorem getD_set_i {l : List Int} {i j : Nat} {z : Int} (h : i < l.length) : (l.set i z).getD j 0 = if i = j then z else l.getD j 0 := by
  rw [List.getD_eq_getElem?_getD, List.getD_eq_getElem?_getD, List.getElem?_set]
  split
  · rename_i e; subst e; simp [h]
  · rfl
/-- While things slide: ahead of p the words are those of C, from q on they are those of O. -/
structure Sld (C O : List Int) (p q : Nat) (ws : List Int) : Prop where
  len : ws.length = O.length
  le : p ≤ q
  lo : ∀ i, i < p → ws.getD i 0 = C.getD i 0
  hi : ∀ i, q ≤ i → ws.getD i 0 = O.getD i 0
theorem Sld.start (C O : List Int) : Sld C O 0 0 O := ⟨rfl, Nat.le_refl _, fun i hi => by omega, fun i _ => rfl⟩
/-- A word is put. -/
theorem Sld.put {C O ws : List Int} {p q : Nat} {z : Int} (h : Sld C O p q ws) (hq : q < O.length) (hz : z = C.getD p 0) : Sld C O (p + 1) (q + 1) (ws.set p z) := by
  have hl := h.len
  have hle := h.le
  refine ⟨by rw [List.length_set]; exact hl, by omega, fun i hi => ?_, fun i hi => ?_⟩
  · rw [getD_set_i (by omega)]
    split
    · rename_i e; subst e; exact hz
    · exact h.lo i (by omega)
  · rw [getD_set_i (by omega), if_neg (by omega)]
    exact h.hi i (by omega)
/-- What is not kept is passed by. -/
theorem Sld.skip {C O ws : List Int} {p q r : Nat} (h : Sld C O p q ws) (hr : q ≤ r) : Sld C O p r ws := ⟨h.len, Nat.le_trans h.le hr, h.lo, fun i hi => h.hi i (by omega)⟩
theorem Sld.done {C O ws : List Int} {q : Nat} (h : Sld C O C.length q ws) (hC : C.length ≤ O.length) : ws.take C.length = C := by
  have hl := h.len
  apply List.ext_getElem
  · rw [List.length_take]; omega
  · intro i h1 h2
    have := h.lo i h2
    rw [List.getD_eq_getElem?_getD, List.getD_eq_getElem?_getD, List.getElem?_eq_getElem (by omega), List.getElem?_eq_getElem h2] at this
    rw [List.getElem_take]
    simpa using this
section
variable {os : List Ob} {l : List Bool}
/-- Where the words of what is kept lie behind. -/
theorem coll_head {i : Nat} (h : i < os.length) (hl : l.length = os.length) (hb : l.getD i false = true) : (wordsL (collO os l)).getD (toM os l i) 0 = wordR 8 ((os.getD i default).f.length : Nat) (os.getD i default).kind := by
  obtain ⟨h1, h2, h3⟩ := coll_at h hl hb
  have := word_head h1
  rw [h3, h2] at this
  rw [this]
  simp [movOb]
theorem coll_field {i j : Nat} (h : i < os.length) (hl : l.length = os.length) (hb : l.getD i false = true) (hj : j < (os.getD i default).f.length) : (wordsL (collO os l)).getD (toM os l i + 1 + j) 0 = movedM os l ((os.getD i default).f.getD j 0) := by
  obtain ⟨h1, h2, h3⟩ := coll_at h hl hb
  have := word_field (j := j) h1 (by rw [h2]; simp [movOb]; exact hj)
  rw [h3, h2] at this
  rw [this]
  generalize os.getD i default = x at hj ⊢
  simp only [movOb]
  rw [List.getD_eq_getElem?_getD, List.getElem?_map, List.getD_eq_getElem?_getD, List.getElem?_eq_getElem hj]
  rfl
theorem coll_len (hl : l.length = os.length) : (wordsL (collO os l)).length = toM os l os.length := by
  rw [wordsL_length, coll_used]
  unfold toM
  rw [keep_all os l hl]
theorem coll_le (hl : l.length = os.length) : (wordsL (collO os l)).length ≤ (wordsL os).length := by
  rw [coll_len hl, wordsL_length, ← at_all]
  exact toM_le hl (Nat.le_refl _)
/-- How far things have come behind some objects. -/
theorem Sld.obj_no {O ws : List Int} {i : Nat} (h : i < os.length) (hl : l.length = os.length) (hb : l.getD i false = false) (hs : Sld (wordsL (collO os l)) O (toM os l i) (atO os i) ws) : Sld (wordsL (collO os l)) O (toM os l (i + 1)) (atO os (i + 1)) ws := by
  have e : toM os l (i + 1) = toM os l i := by rw [toM_succ h hl, hb]; simp
  rw [e]
  exact hs.skip (by rw [at_succ h]; omega)
theorem Sld.obj_yes {O ws : List Int} {i : Nat} (h : i < os.length) (hl : l.length = os.length) (hb : l.getD i false = true) (hs : Sld (wordsL (collO os l)) O (toM os l i + 1 + (os.getD i default).f.length) (atO os i + 1 + (os.getD i default).f.length) ws) : Sld (wordsL (collO os l)) O (toM os l (i + 1)) (atO os (i + 1)) ws := by
  have e : toM os l (i + 1) = toM os l i + 1 + (os.getD i default).f.length := by rw [toM_succ h hl, hb]; simp; omega
  rw [e, at_succ h]
  exact hs
end
end Go.Proofs.Ythgkonjglappjab

set_option linter.unusedVariables false
set_option linter.unusedSimpArgs false
set_option maxRecDepth 100000
namespace Go.Proofs.Ythgkonjglappjab
open Go.RowKit

/-- The row of lengths: of each object that is marked, with its head; of all else nought. -/
structure Lens (os : List Ob) (l : List Bool) (ln : List Int) : Prop where
  len : ln.length = usedL os
  ll : l.length = os.length
  yes : ∀ k, k < os.length → ln.getD (atO os k) 0 = if l.getD k false then ((1 + (os.getD k default).f.length : Nat) : Int) else 0
  no : ∀ q, (∀ k, k < os.length → q ≠ atO os k) → ln.getD q 0 = 0
section
variable {os : List Ob} {l : List Bool} {ln : List Int}
theorem Lens.start (os : List Ob) : Lens os (List.replicate os.length false) (List.replicate (usedL os) 0) := by
  have h0 : ∀ i, (List.replicate os.length false).getD i false = false := fun i => by
    rw [List.getD_eq_getElem?_getD, List.getElem?_replicate]; split <;> rfl
  have h1 : ∀ i, (List.replicate (usedL os) (0 : Int)).getD i 0 = 0 := fun i => by
    rw [List.getD_eq_getElem?_getD, List.getElem?_replicate]; split <;> rfl
  exact ⟨by simp, by simp, fun k hk => by rw [h1, h0]; rfl, fun q _ => h1 q⟩
theorem Lens.set (h : Lens os l ln) {k : Nat} (hk : k < os.length) : Lens os (l.set k true) (ln.set (atO os k) ((1 + (os.getD k default).f.length : Nat) : Int)) := by
  have hlt := at_lt hk
  have hlen := h.len
  refine ⟨by rw [List.length_set]; exact hlen, by rw [List.length_set]; exact h.ll, fun j hj => ?_, fun q hq => ?_⟩
  · rw [getD_set_i (by omega), set_get_b (by rw [h.ll]; exact hk)]
    by_cases e : k = j
    · subst e; simp
    · rw [if_neg (fun e' => e (at_inj hk hj e')), if_neg e]
      exact h.yes j hj
  · rw [getD_set_i (by omega), if_neg (fun e => hq k hk e.symm)]
    exact h.no q hq
theorem Lens.z (h : Lens os l ln) (q : Nat) : 0 ≤ ln.getD q 0 ∧ ln.getD q 0 ≤ usedL os := by
  by_cases e : ∃ k, k < os.length ∧ q = atO os k
  · obtain ⟨k, hk, rfl⟩ := e
    have := at_lt hk
    rw [h.yes k hk]
    split <;> omega
  · rw [h.no q (fun k hk e' => e ⟨k, hk, e'⟩)]
    omega
/-- A word is reached. -/
def reachS (os : List Ob) (s : List Bool × List Nat) (z : Int) : List Bool × List Nat :=
  match findM os z with
  | none => s
  | some k => if s.1.getD k false then s else (s.1.set k true, s.2 ++ [k])
def flds (os : List Ob) (sk : List Nat) : List Int := sk.flatMap (fun k => (os.getD k default).f)
theorem flds_app (os : List Ob) (sk : List Nat) (k : Nat) : flds os (sk ++ [k]) = flds os sk ++ (os.getD k default).f := by
  unfold flds; rw [List.flatMap_append]; simp
/-- What is marked, what is on the stack, what is still to be reached. -/
structure RI (os : List Ob) (rs rem : List Int) (l : List Bool) (sk : List Nat) : Prop where
  mks : Mk os rs l (rem ++ flds os sk)
  cnt : sk.length + cntB l ≤ os.length
  sks : ∀ k ∈ sk, k < os.length ∧ l.getD k false = true
theorem RI.start (os : List Ob) (rs : List Int) : RI os rs rs (List.replicate os.length false) [] := by
  refine ⟨by have := Mk.start os rs; simpa [flds] using this, ?_, fun k hk => by cases hk⟩
  unfold cntB
  simp
theorem RI.reach {rs rem : List Int} {sk : List Nat} {z : Int} (h : RI os rs (z :: rem) l sk) :
    RI os rs rem (reachS os (l, sk) z).1 (reachS os (l, sk) z).2 ∧ 2 * cntB (reachS os (l, sk) z).1 + (reachS os (l, sk) z).2.length ≤ 2 * cntB l + sk.length := by
  have h1 : ∀ y ∈ z :: rem ++ flds os sk, y = z ∨ y ∈ rem ++ flds os sk := fun y hy => by
    rw [List.cons_append] at hy
    exact List.mem_cons.1 hy
  cases hf : findM os z with
  | none =>
    have e : reachS os (l, sk) z = (l, sk) := by unfold reachS; rw [hf]
    rw [e]
    refine ⟨⟨h.mks.drop h1 (fun y hy => by rw [List.cons_append]; exact List.mem_cons_of_mem _ hy) (fun i hi => by rw [hf] at hi; cases hi), h.cnt, h.sks⟩, Nat.le_refl _⟩
  | some k =>
    have hk := (findM_lt hf).1
    cases hb : l.getD k false
    · have e : reachS os (l, sk) z = (l.set k true, sk ++ [k]) := by unfold reachS; rw [hf]; simp only [hb]; rfl
      rw [e]
      have hc := cnt_set (l := l) (i := k) (by rw [h.mks.len]; exact hk) hb
      have hcn := h.cnt
      have hset : ∀ j, l.getD j false = true → (l.set k true).getD j false = true := fun j hj => by
        rw [set_get_b (by rw [h.mks.len]; exact hk)]
        split
        · rfl
        · exact hj
      refine ⟨⟨?_, by rw [List.length_append]; simp only [List.length_cons, List.length_nil]; omega, fun j hj => ?_⟩, by simp only [List.length_append, List.length_cons, List.length_nil]; omega⟩
      · rw [flds_app, ← List.append_assoc]
        refine h.mks.mark (z := z) (by simp) hf (fun y hy => ?_) (fun y hy => ?_) (fun y hy j hj => .inr (List.mem_append_right _ hy))
        · rcases h1 y hy with e | e
          · exact .inl e
          · exact .inr (List.mem_append_left _ e)
        · rcases List.mem_append.1 hy with e | e
          · exact .inl (by rw [List.cons_append]; exact List.mem_cons_of_mem _ e)
          · exact .inr e
      · rcases List.mem_append.1 hj with e | e
        · exact ⟨(h.sks j e).1, hset j (h.sks j e).2⟩
        · rw [List.mem_singleton.1 e]
          exact ⟨hk, by rw [set_get_b (by rw [h.mks.len]; exact hk), if_pos rfl]⟩
    · have e : reachS os (l, sk) z = (l, sk) := by unfold reachS; rw [hf]; simp only [hb]; rfl
      rw [e]
      refine ⟨⟨h.mks.drop h1 (fun y hy => by rw [List.cons_append]; exact List.mem_cons_of_mem _ hy) (fun i hi => by rw [hf] at hi; cases hi; exact hb), h.cnt, h.sks⟩, Nat.le_refl _⟩
theorem reachS_mono {sk : List Nat} {z : Int} {k : Nat} (h : l.getD k false = true) (hl : l.length = os.length) : (reachS os (l, sk) z).1.getD k false = true := by
  unfold reachS
  split
  · exact h
  · rename_i i hi
    split
    · exact h
    · show (l.set i true).getD k false = true
      rw [set_get_b (by rw [hl]; exact (findM_lt hi).1)]
      split
      · rfl
      · exact h
theorem Mk.same {rs s s' : List Int} (h : Mk os rs l s) (h1 : ∀ y, y ∈ s ↔ y ∈ s') : Mk os rs l s' :=
  ⟨h.len, h.sd, fun z hz => h.ss z ((h1 z).2 hz), fun r hr i hi => (h.rt r hr i hi).imp id (h1 r).1, fun i hb z hz j hj => (h.cl i hb z hz j hj).imp id (h1 z).1⟩
theorem RI.pop {rs : List Int} {sk : List Nat} {k : Nat} (h : RI os rs [] l (sk ++ [k])) : RI os rs (os.getD k default).f l sk ∧ k < os.length ∧ l.getD k false = true := by
  have hk := h.sks k (List.mem_append_right _ List.mem_cons_self)
  have hc := h.cnt
  rw [List.length_append] at hc
  refine ⟨⟨h.mks.same (fun y => ?_), by omega, fun j hj => h.sks j (List.mem_append_left _ hj)⟩, hk⟩
  rw [flds_app, List.nil_append, List.mem_append, List.mem_append]
  exact Or.comm
theorem RI.done {rs : List Int} (h : RI os rs [] l []) : l = lvL os rs := h.mks.done (fun z hz => by simp [flds] at hz)
end
end Go.Proofs.Ythgkonjglappjab
