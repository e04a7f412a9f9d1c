import Derived.Test.YtbkfinjajkjhaaaGreatDoorLM14
set_option linter.unusedVariables false
set_option linter.unusedSimpArgs false
set_option maxRecDepth 100000
namespace Go.Proofs.YtbkfinjajkjhaaaGreatDoor
theorem badA_lt : ∀ (f : Nat) (l : List Nat) (k p : Nat), badA f l k = some p -> p < l.length
 | 0, _, _, _, h => by cases h
 | f + 1, l, k, p, h => by
  unfold badA at h
  split at h
  ·cases h
  ·split at h
   ·cases h; omega
   ·exact badA_lt f l _ p h
theorem toksA_lt : ∀ (f : Nat) (l : List Nat) (k p : Nat), k <= l.length -> (toksA f l k).2 = some p -> p < l.length
 | 0, _, _, _, _, h => by cases h
 | f + 1, l, k, p, hk, h => by
  unfold toksA at h
  have hle := skL_le (l := l) hk
  by_cases h2 : (skL l k).2 = false
  ·rw [if_pos h2] at h
   cases h
   have h1 := hasB_pos (skL_wrong (l := l) l.length k (by omega) hk h2)
   rcases Nat.lt_or_ge (skL l k).1 l.length with h3 | h3
   ·exact h3
   ·exact absurd (List.drop_eq_nil_of_le h3) h1
  ·rw [if_neg h2] at h
   by_cases h3 : l.length <= (skL l k).1
   ·rw [if_pos h3] at h; cases h
   ·rw [if_neg h3] at h
    cases h4 : tkM (l.drop (skL l k).1) with
    | none => rw [h4] at h; cases h; omega
    | some y =>
     rw [h4] at h
     have hne : l.drop (skL l k).1 ≠ [] := by intro e; have := congrArg List.length e; rw [List.length_drop, List.length_nil] at this; omega
     have hx := tkM_le hne h4
     rw [List.length_drop] at hx
     exact toksA_lt f l _ p (by omega) h
theorem ans_err {l : List Nat} {T : List Tok} {e p : Int} (hn : l.length <= 65536) (h : ansM l = (T, e, p)) (he : e ≠ 0) : T = [] /\ 0 <= p /\ p < (l.length : Int) := by
 unfold ansM at h
 rw [if_neg (by omega)] at h
 cases h2 : badM l with
 | some q =>
  rw [h2] at h
  cases h
  have := badA_lt _ _ _ _ h2
  exact ⟨rfl, by omega, by omega⟩
 | none =>
  rw [h2] at h
  simp only at h
  cases h3 : (toksM l).2 with
  | some q =>
   rw [h3] at h
   cases h
   have := toksA_lt _ _ _ _ (Nat.zero_le _) h3
   exact ⟨rfl, by omega, by omega⟩
  | none =>
   rw [h3] at h
   simp only [Prod.mk.injEq] at h
   exact absurd h.2.1.symm he
end Go.Proofs.YtbkfinjajkjhaaaGreatDoor
namespace Go.Proofs.YtbkfinjajkjhaaaGreatDoor
theorem gq_blank {r : List Nat} (hr : r ≠ []) (h : blkB (r.getD 0 0) = true) : Gq r 1 := by
 have e : gapN r = 1 := by unfold gapN; rw [if_neg hr, if_pos h]
 have := Gq.step (r := r) (m := 0) (by rw [e]; decide) (.nil _)
 rwa [e] at this
def Pre (P : List Nat) : Prop := Dg 256 P /\ (∀ j, j < P.length -> P.getD j 0 < 128) /\ ∀ r, Gq (P ++ r) P.length
def preA : List Nat := [13, 10]
def preB : List Nat := [32, 59, 32, 97, 32, 114, 101, 109, 97, 114, 107, 32, 34, 32, 40, 10, 35, 124, 32, 111, 110, 101, 32, 35, 124, 32, 105, 110, 32, 124, 35, 32, 97, 110, 111, 116, 104, 101, 114, 32, 124, 35, 9]
def aft : List Nat := [10, 59]
theorem pre_low {P : List Nat} (h : P.all (fun c => decide (c < 128)) = true) : Dg 256 P /\ (∀ j, j < P.length -> P.getD j 0 < 128) := by
 have h1 : ∀ x ∈ P, x < 128 := fun x hx => of_decide_eq_true (List.all_eq_true.1 h x hx)
 refine ⟨fun x hx => Nat.lt_trans (h1 x hx) (by decide), fun j hj => ?_⟩
 rw [List.getD_eq_getElem?_getD, List.getElem?_eq_getElem hj]
 exact h1 _ (List.getElem_mem _)
theorem pre_a : Pre preA := by
 obtain ⟨h1, h2⟩ := pre_low (P := preA) (by kernel_rfl)
 refine ⟨h1, h2, fun r => ?_⟩
 have a : Gq (13 :: 10 :: r) 1 := gq_blank (List.cons_ne_nil _ _) (by show blkB 13 = true; decide)
 have b : Gq (10 :: r) 1 := gq_blank (List.cons_ne_nil _ _) (by show blkB 10 = true; decide)
 exact a.trans b
theorem gapB {r : List Nat} {n : Nat} (h : gapN r = n) (h0 : n ≠ 0) : Gq r n := by
 have := Gq.step (r := r) (m := 0) (by rw [h]; exact h0) (.nil _)
 rwa [h] at this
theorem gapN_line {c : Nat} {r : List Nat} {n : Nat} (h : c = 59) (hn : lineN (c :: r) = n) : gapN (c :: r) = n := by
 subst h
 unfold gapN
 rw [if_neg (List.cons_ne_nil _ _), if_neg (by show ¬ blkB 59 = true; decide), if_pos (show (59 :: r).getD 0 0 = 59 from rfl), hn]
theorem pre_b : Pre preB := by
 obtain ⟨h1, h2⟩ := pre_low (P := preB) (by kernel_rfl)
 refine ⟨h1, h2, fun r => ?_⟩
 have g1 : Gq preB 1 := gq_blank (by decide) (by decide)
 have g2 : Gq (preB.drop 1) 14 := gapB (gapN_line rfl (by kernel_rfl)) (by decide)
 have g3 : Gq (preB.drop 15) 1 := gq_blank (by decide) (by decide)
 have g4 : Gq (preB.drop 16) 26 := gapB ((gapN_rem (by decide) (by decide) (by decide) (by decide)).trans (by kernel_rfl)) (by decide)
 have g : Gq preB (1 + (14 + (1 + 26))) := g1.trans (g2.trans (by rw [List.drop_drop]; exact g3.trans (by rw [List.drop_drop]; exact g4)))
 have hF : Fst preB (preB ++ r) 42 := ⟨by decide, by rw [List.length_append]; exact Nat.le_trans (by decide) (Nat.le_add_right _ _), fun j hj => by
  rw [List.getD_eq_getElem?_getD, List.getElem?_append_left (by exact Nat.lt_trans hj (by decide)), <- List.getD_eq_getElem?_getD]⟩
 have hg := g.loc (preB ++ r) hF (.inr (.inr ⟨by decide, by
  rw [List.getD_eq_getElem?_getD, List.getElem?_append_left (by decide), <- List.getD_eq_getElem?_getD]⟩))
 have hb : Gq ((preB ++ r).drop 42) 1 := gq_blank (List.cons_ne_nil _ _) (by show blkB 9 = true; decide)
 exact hg.trans hb
theorem drop_pre (P r : List Nat) (k : Nat) : (P ++ r).drop (P.length + k) = r.drop k := by
 rw [<- List.drop_drop, List.drop_left]
theorem gq_pre {P r : List Nat} {m : Nat} (hP : Pre P) (h : Gq r m) : Gq (P ++ r) (P.length + m) := (hP.2.2 r).trans (by rw [List.drop_left]; exact h)
theorem sq_pre {P r : List Nat} {L : List Ky} (hP : Pre P) (h : Sq r L) : Sq (P ++ r) L := by
 cases h with
 | nil h => exact .nil (by rw [List.length_append]; exact gq_pre hP h)
 | @cons _ q x L hg hq hx ht =>
  refine .cons (gq_pre hP hg) (by rw [List.length_append]; omega) (x := x) (by rw [drop_pre]; exact hx) ?_
  rw [Nat.add_assoc, drop_pre]; exact ht
theorem getD_app_left {r s : List Nat} {j : Nat} (h : j < r.length) : (r ++ s).getD j 0 = r.getD j 0 := by
 rw [List.getD_eq_getElem?_getD, List.getElem?_append_left h, <- List.getD_eq_getElem?_getD]
theorem fst_app {r s : List Nat} {m : Nat} (h : m <= r.length) : Fst r (r ++ s) m := ⟨h, by rw [List.length_append]; omega, fun j hj => getD_app_left (by omega)⟩
theorem drop_app {r s : List Nat} {q : Nat} (h : q <= r.length) : (r ++ s).drop q = r.drop q ++ s := List.drop_append_of_le_length h
theorem gq_aft : Gq aft 2 := by
 have a : Gq (10 :: [59]) 1 := gq_blank (List.cons_ne_nil _ _) (by show blkB 10 = true; decide)
 have b : Gq ([59] : List Nat) 1 := gapB (gapN_line rfl (by kernel_rfl)) (by decide)
 exact a.trans b
theorem sq_aft {r : List Nat} {L : List Ky} (h : Sq r L) : Dg 256 r -> Vd r -> Sq (r ++ aft) L := by
 induction h with
 | @nil r h =>
  intro _ _
  refine .nil ?_
  rw [List.length_append]
  have h10 : (r ++ aft).getD r.length 0 = 10 := by
   rw [List.getD_eq_getElem?_getD, List.getElem?_append_right (Nat.le_refl _), Nat.sub_self]; rfl
  exact (h.loc _ (fst_app (Nat.le_refl _)) (.inr (.inl h10))).trans (by rw [List.drop_left]; exact gq_aft)
 | @cons r q x L hg hq hx ht ih =>
  intro hd hv
  have hne : r.drop q ≠ [] := by intro e; have := congrArg List.length e; rw [List.length_drop, List.length_nil] at this; omega
  have hle := tkM_le hne hx
  have hle2 := hle.2
  rw [List.length_drop] at hle2
  have hs := gq_skL hg r 0 (by rw [List.drop_zero]) (Nat.zero_le _) (by rw [Nat.zero_add]; exact tk_ng hne hx)
  rw [Nat.zero_add] at hs
  have hb := skL_bnd (l := r) r.length 0 (by omega) (Nat.zero_le _) (.inl rfl)
  rw [hs] at hb
  have hbe : Bnd r (q + x.2.2.2) := bnd_drop (by omega) hle.1 (tkM_end hx).2
  have hvq := hv.drop q (by omega) hb.1
  have haft : Dg 256 aft := by intro y hy; simp [aft] at hy; omega
  refine .cons (hg.loc _ (fst_app (by omega)) (.inr (.inr ⟨hq, getD_app_left hq⟩))) (by rw [List.length_append]; omega) (x := x) ?_ ?_
  ·rw [drop_app (by omega)]
   refine tkM_loc hne (fst_app hle.2) ?_ (hd.drop q) ((hd.drop q).append haft) hvq hx
   by_cases he : x.2.2.2 = (r.drop q).length
   ·refine .inr (.inl ?_)
    rw [List.getD_eq_getElem?_getD, List.getElem?_append_right (by omega), he, Nat.sub_self]; rfl
   ·exact .inr (.inr ⟨by omega, getD_app_left (by omega)⟩)
  ·rw [drop_app (by omega)]
   exact ih (hd.drop _) (hv.drop _ (by omega) hbe)
theorem vd_cons {c : Nat} {r : List Nat} (hc : c < 128) : Vd (c :: r) ↔ Vd r := by
 have e : decN (c :: r) = (c, 1) := decN_low hc
 constructor
 ·intro h
  have := h.tail (List.cons_ne_nil _ _)
  rw [e] at this; exact this
 ·intro h
  exact .step (List.cons_ne_nil _ _) (by rw [e]; intro h; have := congrArg Prod.fst h; simp at this; omega) (by rw [e]; exact h)
theorem vd_pre : ∀ {P r : List Nat}, (∀ j, j < P.length -> P.getD j 0 < 128) -> (Vd (P ++ r) ↔ Vd r)
 | [], r, _ => Iff.rfl
 | c :: P, r, h => by
  have h0 : c < 128 := h 0 (by simp)
  rw [List.cons_append, vd_cons h0]
  exact vd_pre (fun j hj => by have := h (j + 1) (by simpa using hj); simpa using this)
theorem vd_app : ∀ {r s : List Nat}, Vd r -> Vd s -> Vd (r ++ s) := by
 intro r s h
 induction h with
 | nil => exact id
 | @step r hr hd ht ih =>
  intro hs
  have hl := decN_le hr
  have e := decN_fst (fst_app (s := s) hl.2.2) hr hd (Nat.le_refl _)
  refine .step (by simp [hr]) (by rw [e]; exact hd) ?_
  rw [e, drop_app hl.2.2]
  exact ih hs
theorem badA_pre {P l : List Nat} : ∀ (f k : Nat), badA f (P ++ l) (P.length + k) = (badA f l k).map (fun p => P.length + p)
 | 0, _ => rfl
 | f + 1, k => by
  unfold badA
  rw [List.length_append, drop_pre]
  by_cases h : l.length <= k
  ·rw [if_pos h, if_pos (by omega)]; rfl
  ·rw [if_neg h, if_neg (by omega)]
   by_cases h2 : (runeL (l.drop k)).2 = 0
   ·rw [if_pos h2, if_pos h2]; rfl
   ·rw [if_neg h2, if_neg h2, Nat.add_assoc]
    exact badA_pre f _
theorem bad_cons {c : Nat} {l : List Nat} (hc : c < 128) (hd : Dg 256 (c :: l)) : badM (c :: l) = (badM l).map (fun p => 1 + p) := by
 have e : runeL (c :: l) = (c, 1) := by
  rw [runeL_dec hd, decN_low (show (c :: l).getD 0 0 < 128 from hc), if_neg (by intro h; have := congrArg Prod.fst h; simp at this; omega)]; rfl
 unfold badM
 have := badA_pre (P := [c]) (l := l) l.length 0
 rw [show [c].length = 1 from rfl, Nat.add_zero] at this
 show badA (l.length + 1) (c :: l) 0 = _
 rw [badA_go (by simp) (by rw [List.drop_zero, e]; exact Nat.one_ne_zero), List.drop_zero, e]
 exact this
theorem bad_pre : ∀ {P l : List Nat}, (∀ j, j < P.length -> P.getD j 0 < 128) -> Dg 256 (P ++ l) -> badM (P ++ l) = (badM l).map (fun p => P.length + p)
 | [], l, _, _ => by
  show badM l = _
  cases badM l with
  | none => rfl
  | some p => simp
 | c :: P, l, h, hd => by
  have hd2 : Dg 256 (P ++ l) := fun x hx => hd x (List.mem_cons_of_mem _ hx)
  have h0 : c < 128 := h 0 (by simp)
  rw [List.cons_append, bad_cons (l := P ++ l) h0 hd, bad_pre (fun j hj => by have := h (j + 1) (by simpa using hj); simpa using this) hd2]
  cases badM l with
  | none => rfl
  | some p => simp; omega
theorem skA_shift : ∀ (n : Nat) (r : List Nat) (k q : Nat), skA n r (k + q) = ((skA n r k).1 + q, (skA n r k).2)
 | 0, r, k, q => rfl
 | n + 1, r, k, q => by
  unfold skA
  by_cases h1 : r = []
  ·rw [if_pos h1, if_pos h1]
  ·rw [if_neg h1, if_neg h1]
   by_cases h2 : blkB (r.getD 0 0) = true
   ·rw [if_pos h2, if_pos h2, show k + q + 1 = k + 1 + q by omega]; exact skA_shift n _ _ _
   ·rw [if_neg h2, if_neg h2]
    by_cases h3 : r.getD 0 0 = 59
    ·rw [if_pos h3, if_pos h3, show k + q + lineN r = k + lineN r + q by omega]; exact skA_shift n _ _ _
    ·rw [if_neg h3, if_neg h3]
     by_cases h4 : hasB r [35, 124] = true
     ·rw [if_pos h4, if_pos h4]
      cases remN r with
      | none => rfl
      | some e => show skA n _ (k + q + e) = _; rw [show k + q + e = k + e + q by omega]; exact skA_shift n _ _ _
     ·rw [if_neg h4, if_neg h4]
theorem skL_pre {P l : List Nat} {k : Nat} : skL (P ++ l) (P.length + k) = (P.length + (skL l k).1, (skL l k).2) := by
 unfold skL
 rw [drop_pre, List.length_append, show P.length + l.length - (P.length + k) = l.length - k by omega, Nat.add_comm P.length k, skA_shift, Nat.add_comm _ P.length]
theorem toksA_pre {P l : List Nat} : ∀ (f k : Nat), (toksA f (P ++ l) (P.length + k)).2 = (toksA f l k).2.map (fun p => P.length + p)
 | 0, _ => rfl
 | f + 1, k => by
  unfold toksA
  rw [skL_pre]
  simp only
  by_cases h1 : (skL l k).2 = false
  ·rw [if_pos h1, if_pos h1]; rfl
  ·rw [if_neg h1, if_neg h1, List.length_append]
   by_cases h2 : l.length <= (skL l k).1
   ·rw [if_pos h2, if_pos (by omega)]; rfl
   ·rw [if_neg h2, if_neg (by omega), drop_pre]
    cases tkM (l.drop (skL l k).1) with
    | none => rfl
    | some x =>
     simp only
     rw [Nat.add_assoc]
     exact toksA_pre f _
theorem toksA_fuel : ∀ (f g : Nat) (l : List Nat) (k : Nat), k <= l.length -> l.length < k + f -> l.length < k + g -> toksA f l k = toksA g l k
 | 0, g, l, k, h, h1, h2 => by omega
 | f + 1, 0, l, k, h, h1, h2 => by omega
 | f + 1, g + 1, l, k, h, h1, h2 => by
  unfold toksA
  have hle := skL_le (l := l) h
  by_cases c1 : (skL l k).2 = false
  ·rw [if_pos c1, if_pos c1]
  ·rw [if_neg c1, if_neg c1]
   by_cases c2 : l.length <= (skL l k).1
   ·rw [if_pos c2, if_pos c2]
   ·rw [if_neg c2, if_neg c2]
    cases h4 : tkM (l.drop (skL l k).1) with
    | none => rfl
    | some x =>
     have hne : l.drop (skL l k).1 ≠ [] := by intro e; have := congrArg List.length e; rw [List.length_drop, List.length_nil] at this; omega
     have hx := tkM_le hne h4
     rw [List.length_drop] at hx
     simp only
     rw [toksA_fuel f g l _ (by omega) (by omega) (by omega)]
theorem gq_skL2 {r : List Nat} {m : Nat} (h : Gq r m) : ∀ (l : List Nat) (k : Nat), r = l.drop k -> k <= l.length -> skL l k = skL l (k + m) := by
 induction h with
 | nil r => intro l k _ _; rw [Nat.add_zero]
 | @step r m h0 ht ih =>
  intro l k e hk
  subst e
  obtain ⟨_, g2, g3⟩ := skL_gap (l := l) hk
  rw [g2 h0, ih l (k + gapN (l.drop k)) (by rw [List.drop_drop]) g3, Nat.add_assoc]
theorem toksA_skL {f : Nat} {l : List Nat} {k q : Nat} (h : skL l k = skL l q) : toksA (f + 1) l k = toksA (f + 1) l q := by unfold toksA; rw [h]
theorem ans_pre {P l : List Nat} {T : List Tok} {e p : Int} (hP : Pre P) (hd : Dg 256 l) (hn : P.length + l.length <= 65536) (h : ansM l = (T, e, p)) (he : e ≠ 0) : ∃ U, ansM (P ++ l) = (U, e, (P.length : Int) + p) := by
 have hdd : Dg 256 (P ++ l) := hP.1.append hd
 unfold ansM at h ⊢
 rw [if_neg (by omega)] at h
 rw [if_neg (by rw [List.length_append]; omega), bad_pre hP.2.1 hdd]
 cases h2 : badM l with
 | some q =>
  rw [h2] at h
  cases h
  exact ⟨[], by simp⟩
 | none =>
  rw [h2] at h
  simp only at h
  cases h3 : (toksM l).2 with
  | none =>
   rw [h3] at h
   simp only [Prod.mk.injEq] at h
   exact absurd h.2.1.symm he
  | some q =>
   rw [h3] at h
   cases h
   have e1 : (toksM (P ++ l)).2 = some (P.length + q) := by
    unfold toksM
    rw [toksA_skL (gq_skL2 (hP.2.2 l) (P ++ l) 0 (by rw [List.drop_zero]) (Nat.zero_le _)), Nat.zero_add]
    have e2 := toksA_fuel ((P ++ l).length + 1) (l.length + 1) (P ++ l) P.length (by rw [List.length_append]; omega) (by omega) (by rw [List.length_append]; omega)
    have e3 := toksA_pre (P := P) (l := l) (l.length + 1) 0
    rw [show P.length + 0 = P.length from rfl] at e3
    rw [e2, e3]
    unfold toksM at h3
    rw [h3]; rfl
   simp only [Option.map_none, e1]
   exact ⟨[], by simp⟩
theorem ans_both {P l : List Nat} {T : List Tok} {p : Int} (hP : Pre P) (hd : Dg 256 l) (hn : P.length + l.length + 2 <= 65536) (h : ansM l = (T, 0, p)) : ∃ U, ansM (P ++ l ++ aft) = (U, 0, 0) /\ U.map ky = T.map ky := by
 obtain ⟨h1, h2, h3, h4, L, h5, h6⟩ := ans_sq hd h
 have haft : Dg 256 aft := by intro y hy; simp [aft] at hy; omega
 have hva : Vd aft := (vd_cons (by decide)).2 ((vd_cons (by decide)).2 .nil)
 rw [List.append_assoc]
 obtain ⟨U, u1, u2⟩ := sq_ans (l := P ++ (l ++ aft)) (by simp [aft]; omega) (hP.1.append (hd.append haft)) ((vd_pre hP.2.1).2 (vd_app h2 hva)) (sq_pre hP (sq_aft h5 hd h2))
 exact ⟨U, u1, by rw [u2, h6]⟩
end Go.Proofs.YtbkfinjajkjhaaaGreatDoor
