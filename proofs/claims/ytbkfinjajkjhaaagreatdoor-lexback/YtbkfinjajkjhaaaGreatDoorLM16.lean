import Derived.Test.YtbkfinjajkjhaaaGreatDoorLM13
import Derived.Test.YtbkfinjajkjhaaaGreatDoorRL15
set_option linter.unusedVariables false
set_option linter.unusedSimpArgs false
set_option maxRecDepth 100000
namespace Go.Proofs.YtbkfinjajkjhaaaGreatDoor
inductive Gq : List Nat -> Nat -> Prop
 | nil (r : List Nat) : Gq r 0
 | step {r : List Nat} {m : Nat} (h0 : gapN r ≠ 0) (ht : Gq (r.drop (gapN r)) m) : Gq r (gapN r + m)
theorem Gq.trans {r : List Nat} {m n : Nat} (h : Gq r m) (h2 : Gq (r.drop m) n) : Gq r (m + n) := by
 induction h with
 | nil r => rw [Nat.zero_add]; exact h2
 | @step r m h0 ht ih =>
  rw [Nat.add_assoc]
  exact .step h0 (ih (by rw [List.drop_drop]; exact h2))
def Ng (r : List Nat) : Prop := gapN r = 0 /\ hasB r [35, 124] = false
theorem tk_ng {r : List Nat} {x : Tkn} (hr : r ≠ []) (h : tkM r = some x) : Ng r := by
 have h3 : hasB r [35, 124] = false := by
  cases hb : hasB r [35, 124] with
  | false => rfl
  | true => rw [tkM_remark hb] at h; cases h
 refine ⟨?_, h3⟩
 unfold gapN
 rw [if_neg hr]
 have key : dlmB (r.getD 0 0) = true -> r.getD 0 0 ≠ 40 -> r.getD 0 0 ≠ 41 -> r.getD 0 0 ≠ 34 -> False := fun hd n1 n2 n3 => by
  have hw : wordN r = 0 := by
   have := wordN_stop (l := r) (k := 0) (List.length_pos_iff.2 hr) hd
   rwa [List.drop_zero] at this
  have n4 : r.getD 0 0 ≠ 35 := fun e => by rw [e] at hd; exact absurd hd (by decide)
  have n5 : ¬ (r.getD 0 0 = 39 \/ r.getD 0 0 = 96 \/ r.getD 0 0 = 44) := fun e => by
   rcases e with e | e | e <;>(rw [e] at hd; exact absurd hd (by decide))
  unfold tkM at h
  rw [if_neg n1, if_neg n2, if_neg n5, if_neg n3, if_neg n4] at h
  have := otherM_le h
  have hx : x.2.2.2 = wordN r := by
   unfold otherM at h
   repeat' split at h
   all_goals first | (cases h; rfl) | (cases h)
  omega
 by_cases h1 : blkB (r.getD 0 0) = true
 ·exfalso
  have h1' := h1
  unfold blkB at h1'
  simp only [Bool.or_eq_true, beq_iff_eq] at h1'
  exact key (by unfold dlmB; rw [h1]; rfl) (by omega) (by omega) (by omega)
 ·rw [if_neg h1]
  by_cases h2 : r.getD 0 0 = 59
  ·exfalso
   exact key (by rw [h2]; decide) (by omega) (by omega) (by omega)
  ·rw [if_neg h2, h3]; rfl
theorem skL_gq {l : List Nat} : ∀ (f k : Nat), l.length <= k + f -> k <= l.length -> (skL l k).2 = true -> ∃ m, (skL l k).1 = k + m /\ Gq (l.drop k) m /\ Ng (l.drop (k + m))
 | 0, k, h, hk, h2 => by
  have hd : l.drop k = [] := List.drop_eq_nil_of_le (by omega)
  refine ⟨0, ?_, .nil _, ?_⟩
  ·rw [skL_end (by omega)]; rfl
  ·rw [Nat.add_zero, hd]; exact ⟨rfl, rfl⟩
 | f + 1, k, h, hk, h2 => by
  obtain ⟨g1, g2, g3⟩ := skL_gap (l := l) hk
  by_cases hg : gapN (l.drop k) = 0
  ·refine ⟨0, (g1 hg).1, .nil _, hg, ?_⟩
   rw [Nat.add_zero]
   cases hb : hasB (l.drop k) [35, 124] with
   | false => rfl
   | true =>
    exfalso
    by_cases hkl : k < l.length
    ·rw [skL_go hkl] at h2
     unfold gapN at hg
     have hne : l.drop k ≠ [] := by intro e; rw [e] at hb; exact absurd hb (by decide)
     have e0 : (l.drop k).getD 0 0 = l.getD k 0 := by rw [getD_drop]; rfl
     rw [if_neg hne, e0] at hg
     by_cases b1 : blkB (l.getD k 0) = true
     ·rw [if_pos b1] at hg; cases hg
     ·rw [if_neg b1] at hg h2
      by_cases b2 : l.getD k 0 = 59
      ·have := (two_one hb).1
       rw [e0] at this; omega
      ·rw [if_neg b2, if_pos hb] at hg h2
       rw [rm_first hb] at hg
       rw [remL_remN (by omega)] at h2
       cases he : remN (l.drop k) with
       | none => rw [he] at h2; cases h2
       | some e => rw [he] at hg; have := (remN_pos he).1; simp at hg; omega
    ·rw [List.drop_eq_nil_of_le (by omega)] at hb; exact absurd hb (by decide)
  ·rw [g2 hg] at h2 ⊢
   obtain ⟨m, m1, m2, m3⟩ := skL_gq f (k + gapN (l.drop k)) (by omega) g3 h2
   refine ⟨gapN (l.drop k) + m, by omega, .step hg (by rw [List.drop_drop]; exact m2), by rw [<- Nat.add_assoc]; exact m3⟩
theorem gq_skL {r : List Nat} {m : Nat} (h : Gq r m) : ∀ (l : List Nat) (k : Nat), r = l.drop k -> k <= l.length -> Ng (l.drop (k + m)) -> skL l k = (k + m, true) := by
 induction h with
 | nil r =>
  intro l k e hk hn
  obtain ⟨g1, _, _⟩ := skL_gap (l := l) hk
  obtain ⟨a1, a2⟩ := g1 hn.1
  rw [Nat.add_zero] at hn ⊢
  apply Prod.ext
  ·exact a1
  ·cases h2 : (skL l k).2 with
   | true => rfl
   | false => rw [hn.2] at a2; exact absurd (a2 h2) (by decide)
 | @step r m h0 ht ih =>
  intro l k e hk hn
  subst e
  obtain ⟨_, g2, g3⟩ := skL_gap (l := l) hk
  rw [g2 h0, ih l (k + gapN (l.drop k)) (by rw [List.drop_drop]) g3 (by rw [Nat.add_assoc]; exact hn), Nat.add_assoc]
abbrev Ky := Int × Int × ByteArray
def kyT (x : Tkn) : Ky := (x.1, x.2.1, x.2.2.1)
def ky (x : Tok) : Ky := (x.kind, x.num, x.text)
def kyE : Ky := (0, 0, ⟨#[]⟩)
inductive Sq : List Nat -> List Ky -> Prop
 | nil {r : List Nat} (h : Gq r r.length) : Sq r []
 | cons {r : List Nat} {q : Nat} {x : Tkn} {L : List Ky} (hg : Gq r q) (hq : q < r.length) (hx : tkM (r.drop q) = some x) (ht : Sq (r.drop (q + x.2.2.2)) L) : Sq r (kyT x :: L)
theorem toks_sq : ∀ (f : Nat) (l : List Nat) (k : Nat) (T : List Tok), l.length < k + f -> k <= l.length -> toksA f l k = (T, none) -> ∃ L, Sq (l.drop k) L /\ T.map ky = L ++ [kyE]
 | 0, l, k, T, h, hk, e => by omega
 | f + 1, l, k, T, h, hk, e => by
  unfold toksA at e
  by_cases h2 : (skL l k).2 = false
  ·rw [if_pos h2] at e; cases e
  ·rw [if_neg h2] at e
   obtain ⟨m, m1, m2, m3⟩ := skL_gq (l := l) l.length k (by omega) hk (by simpa using h2)
   have hle := skL_le (l := l) hk
   by_cases h3 : l.length <= (skL l k).1
   ·rw [if_pos h3] at e
    cases e
    refine ⟨[], .nil ?_, rfl⟩
    rw [List.length_drop, show l.length - k = m by omega]; exact m2
   ·rw [if_neg h3] at e
    cases h4 : tkM (l.drop (skL l k).1) with
    | none => rw [h4] at e; cases e
    | some x =>
     rw [h4] at e
     simp only [Prod.mk.injEq] at e
     obtain ⟨e1, e2⟩ := e
     have hne : l.drop (skL l k).1 ≠ [] := by intro e; have := congrArg List.length e; rw [List.length_drop, List.length_nil] at this; omega
     have hx := tkM_le hne h4
     rw [List.length_drop] at hx
     obtain ⟨L, s1, s2⟩ := toks_sq f l ((skL l k).1 + x.2.2.2) _ (by omega) (by omega) (Prod.ext rfl e2)
     refine ⟨kyT x :: L, ?_, ?_⟩
     ·refine .cons m2 (by rw [List.length_drop]; omega) (x := x) ?_ ?_
      ·rw [List.drop_drop, <- m1]; exact h4
      ·rw [List.drop_drop, <- Nat.add_assoc, <- m1]; exact s1
     ·rw [<- e1, List.map_cons, s2]; rfl
theorem sq_toks {r : List Nat} {L : List Ky} (h : Sq r L) : ∀ (f : Nat) (l : List Nat) (k : Nat), r = l.drop k -> k <= l.length -> l.length < k + f -> ∃ T, toksA f l k = (T, none) /\ T.map ky = L ++ [kyE] := by
 induction h with
 | @nil r hg =>
  intro f l k e hk hf
  subst e
  obtain ⟨f, rfl⟩ : ∃ f', f = f' + 1 := ⟨f - 1, by omega⟩
  rw [List.length_drop] at hg
  have hs := gq_skL hg l k rfl hk (by rw [show k + (l.length - k) = l.length by omega, List.drop_length]; exact ⟨rfl, rfl⟩)
  exact ⟨_, toksA_end (by rw [hs]) (by rw [hs]; show l.length <= k + (l.length - k); omega), rfl⟩
 | @cons r q x L hg hq hx ht ih =>
  intro f l k e hk hf
  subst e
  obtain ⟨f, rfl⟩ : ∃ f', f = f' + 1 := ⟨f - 1, by omega⟩
  rw [List.length_drop] at hq
  rw [List.drop_drop] at hx
  have hne : l.drop (k + q) ≠ [] := by intro e; have := congrArg List.length e; rw [List.length_drop, List.length_nil] at this; omega
  have hs := gq_skL hg l k rfl hk (tk_ng hne hx)
  have hle := tkM_le hne hx
  rw [List.length_drop] at hle
  obtain ⟨T, t1, t2⟩ := ih f l (k + q + x.2.2.2) (by rw [List.drop_drop, Nat.add_assoc]) (by omega) (by omega)
  refine ⟨⟨x.1, x.2.1, x.2.2.1, k + q, k + q + x.2.2.2⟩ :: T, ?_, by rw [List.map_cons, t2]; rfl⟩
  have := toksA_some (f := f) (l := l) (k := k) (x := x) (by rw [hs]) (by rw [hs]; show ¬ l.length <= k + q; omega) (by rw [hs]; exact hx)
  rw [this, hs]
  simp only
  rw [t1]
theorem sq_ans {l : List Nat} {L : List Ky} (hn : l.length <= 65536) (hd : Dg 256 l) (hv : Vd l) (h : Sq l L) : ∃ T, ansM l = (T, 0, 0) /\ T.map ky = L ++ [kyE] := by
 obtain ⟨T, t1, t2⟩ := sq_toks h (l.length + 1) l 0 (by rw [List.drop_zero]) (Nat.zero_le _) (by omega)
 refine ⟨T, ?_, t2⟩
 unfold ansM toksM
 rw [if_neg (by omega), (badM_vd hd).2 hv, t1]
theorem ans_sq {l : List Nat} {T : List Tok} {p : Int} (hd : Dg 256 l) (h : ansM l = (T, 0, p)) : l.length <= 65536 /\ Vd l /\ p = 0 /\ toksA (l.length + 1) l 0 = (T, none) /\ ∃ L, Sq l L /\ T.map ky = L ++ [kyE] := by
 unfold ansM at h
 by_cases h1 : 65536 < l.length
 ·rw [if_pos h1] at h; cases h
 ·rw [if_neg h1] at h
  cases h2 : badM l with
  | some q => rw [h2] at h; cases h
  | none =>
   rw [h2] at h
   simp only at h
   cases h3 : (toksM l).2 with
   | some q => rw [h3] at h; cases h
   | none =>
    rw [h3] at h
    simp only [Prod.mk.injEq] at h
    have h4 : toksA (l.length + 1) l 0 = (T, none) := Prod.ext h.1 h3
    have := toks_sq _ l 0 T (by omega) (Nat.zero_le _) h4
    rw [List.drop_zero] at this
    exact ⟨by omega, (badM_vd hd).1 h2, h.2.2.symm, h4, this⟩
end Go.Proofs.YtbkfinjajkjhaaaGreatDoor
namespace Go.Proofs.YtbkfinjajkjhaaaGreatDoor
theorem fst_take {r : List Nat} {m : Nat} (h : m <= r.length) : Fst r (r.take m) m := ⟨h, by rw [List.length_take]; omega, fun j hj => getD_take_lt r hj⟩
theorem len_take {r : List Nat} {m : Nat} (h : m <= r.length) : (r.take m).length = m := by rw [List.length_take]; omega
theorem badA_lt : ∀ (f : Nat) (l : List Nat) (k p : Nat), badA f l k = some p -> p < l.length
 | 0, _, _, _, h => by cases h
 | f + 1, l, k, p, h => by
  unfold badA at h
  split at h
  ·cases h
  ·split at h
   ·cases h; omega
   ·exact badA_lt f l _ p h
theorem toksA_lt : ∀ (f : Nat) (l : List Nat) (k p : Nat), k <= l.length -> (toksA f l k).2 = some p -> p < l.length
 | 0, _, _, _, _, h => by cases h
 | f + 1, l, k, p, hk, h => by
  unfold toksA at h
  have hle := skL_le (l := l) hk
  by_cases h2 : (skL l k).2 = false
  ·rw [if_pos h2] at h
   cases h
   have h1 := hasB_pos (skL_wrong (l := l) l.length k (by omega) hk h2)
   rcases Nat.lt_or_ge (skL l k).1 l.length with h3 | h3
   ·exact h3
   ·exact absurd (List.drop_eq_nil_of_le h3) h1
  ·rw [if_neg h2] at h
   by_cases h3 : l.length <= (skL l k).1
   ·rw [if_pos h3] at h; cases h
   ·rw [if_neg h3] at h
    cases h4 : tkM (l.drop (skL l k).1) with
    | none => rw [h4] at h; cases h; omega
    | some y =>
     rw [h4] at h
     have hne : l.drop (skL l k).1 ≠ [] := by intro e; have := congrArg List.length e; rw [List.length_drop, List.length_nil] at this; omega
     have hx := tkM_le hne h4
     rw [List.length_drop] at hx
     exact toksA_lt f l _ p (by omega) h
theorem ans_err {l : List Nat} {T : List Tok} {e p : Int} (hn : l.length <= 65536) (h : ansM l = (T, e, p)) (he : e ≠ 0) : T = [] /\ 0 <= p /\ p < (l.length : Int) := by
 unfold ansM at h
 rw [if_neg (by omega)] at h
 cases h2 : badM l with
 | some q =>
  rw [h2] at h
  cases h
  have := badA_lt _ _ _ _ h2
  exact ⟨rfl, by omega, by omega⟩
 | none =>
  rw [h2] at h
  simp only at h
  cases h3 : (toksM l).2 with
  | some q =>
   rw [h3] at h
   cases h
   have := toksA_lt _ _ _ _ (Nat.zero_le _) h3
   exact ⟨rfl, by omega, by omega⟩
  | none =>
   rw [h3] at h
   simp only [Prod.mk.injEq] at h
   exact absurd h.2.1.symm he
end Go.Proofs.YtbkfinjajkjhaaaGreatDoor
namespace Go.Proofs.YtbkfinjajkjhaaaGreatDoor
theorem gq_blank {r : List Nat} (hr : r ≠ []) (h : blkB (r.getD 0 0) = true) : Gq r 1 := by
 have e : gapN r = 1 := by unfold gapN; rw [if_neg hr, if_pos h]
 have := Gq.step (r := r) (m := 0) (by rw [e]; decide) (.nil _)
 rwa [e] at this
def Pre (P : List Nat) : Prop := Dg 256 P /\ (∀ j, j < P.length -> P.getD j 0 < 128) /\ ∀ r, Gq (P ++ r) P.length
theorem pre_low {P : List Nat} (h : P.all (fun c => decide (c < 128)) = true) : Dg 256 P /\ (∀ j, j < P.length -> P.getD j 0 < 128) := by
 have h1 : ∀ x ∈ P, x < 128 := fun x hx => of_decide_eq_true (List.all_eq_true.1 h x hx)
 refine ⟨fun x hx => Nat.lt_trans (h1 x hx) (by decide), fun j hj => ?_⟩
 rw [List.getD_eq_getElem?_getD, List.getElem?_eq_getElem hj]
 exact h1 _ (List.getElem_mem _)
theorem drop_pre (P r : List Nat) (k : Nat) : (P ++ r).drop (P.length + k) = r.drop k := by
 rw [<- List.drop_drop, List.drop_left]
theorem gq_pre {P r : List Nat} {m : Nat} (hP : Pre P) (h : Gq r m) : Gq (P ++ r) (P.length + m) := (hP.2.2 r).trans (by rw [List.drop_left]; exact h)
theorem sq_pre {P r : List Nat} {L : List Ky} (hP : Pre P) (h : Sq r L) : Sq (P ++ r) L := by
 cases h with
 | nil h => exact .nil (by rw [List.length_append]; exact gq_pre hP h)
 | @cons _ q x L hg hq hx ht =>
  refine .cons (gq_pre hP hg) (by rw [List.length_append]; omega) (x := x) (by rw [drop_pre]; exact hx) ?_
  rw [Nat.add_assoc, drop_pre]; exact ht
theorem getD_app_left {r s : List Nat} {j : Nat} (h : j < r.length) : (r ++ s).getD j 0 = r.getD j 0 := by
 rw [List.getD_eq_getElem?_getD, List.getElem?_append_left h, <- List.getD_eq_getElem?_getD]
theorem fst_app {r s : List Nat} {m : Nat} (h : m <= r.length) : Fst r (r ++ s) m := ⟨h, by rw [List.length_append]; omega, fun j hj => getD_app_left (by omega)⟩
theorem drop_app {r s : List Nat} {q : Nat} (h : q <= r.length) : (r ++ s).drop q = r.drop q ++ s := List.drop_append_of_le_length h
theorem vd_cons {c : Nat} {r : List Nat} (hc : c < 128) : Vd (c :: r) ↔ Vd r := by
 have e : decN (c :: r) = (c, 1) := decN_low hc
 constructor
 ·intro h
  have := h.tail (List.cons_ne_nil _ _)
  rw [e] at this; exact this
 ·intro h
  exact .step (List.cons_ne_nil _ _) (by rw [e]; intro h; have := congrArg Prod.fst h; simp at this; omega) (by rw [e]; exact h)
theorem vd_app : ∀ {r s : List Nat}, Vd r -> Vd s -> Vd (r ++ s) := by
 intro r s h
 induction h with
 | nil => exact id
 | @step r hr hd ht ih =>
  intro hs
  have hl := decN_le hr
  have e := decN_fst (fst_app (s := s) hl.2.2) hr hd (Nat.le_refl _)
  refine .step (by simp [hr]) (by rw [e]; exact hd) ?_
  rw [e, drop_app hl.2.2]
  exact ih hs
end Go.Proofs.YtbkfinjajkjhaaaGreatDoor
