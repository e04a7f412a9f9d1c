import Derived.Test.YtbkfinjajkjhaaaGreatDoorLM13
import Derived.Test.YtbkfinjajkjhaaaGreatDoorRL15
set_option linter.unusedVariables false
set_option linter.unusedSimpArgs false
set_option maxRecDepth 100000
namespace Go.Proofs.YtbkfinjajkjhaaaGreatDoor
theorem remA_fst : ∀ (f : Nat) (r : List Nat) (d k e : Nat), remA f r d k = some e -> ∀ (q : List Nat) (n g : Nat), Fst r q n -> e <= k + n -> q.length <= g -> remA g q d k = some e
 | 0, _, _, _, _, h, _, _, _, _, _, _ => by cases h
 | f + 1, r, d, k, e, h, q, n, g, hF, he, hg => by
  have hp := remA_pos _ _ _ _ _ h
  have l2 := hF.le'
  obtain ⟨g, rfl⟩ : ∃ g', g = g' + 1 := ⟨g - 1, by omega⟩
  obtain ⟨n1, n2⟩ := hF.ne (by omega)
  unfold remA at h ⊢
  rw [if_neg n1] at h
  rw [if_neg n2, hF.two (by omega), hF.two (by omega)]
  by_cases c1 : hasB r [35, 124] = true
  ·rw [if_pos c1] at h ⊢
   have := remA_pos _ _ _ _ _ h
   exact remA_fst f _ _ _ _ h _ (n - 2) g (hF.drop (by omega)) (by omega) (by rw [List.length_drop]; omega)
  ·rw [if_neg c1] at h ⊢
   by_cases c2 : hasB r [124, 35] = true
   ·rw [if_pos c2] at h ⊢
    by_cases c3 : d = 1
    ·rw [if_pos c3] at h ⊢; exact h
    ·rw [if_neg c3] at h ⊢
     exact remA_fst f _ _ _ _ h _ (n - 2) g (hF.drop (by omega)) (by omega) (by rw [List.length_drop]; omega)
   ·rw [if_neg c2] at h ⊢
    exact remA_fst f _ _ _ _ h _ (n - 1) g (hF.drop (by omega)) (by omega) (by rw [List.length_drop]; omega)
theorem remN_fst {r q : List Nat} {e n : Nat} (hF : Fst r q n) (h : remN r = some e) (he : e <= n) : remN q = some e := remA_fst _ _ _ _ _ h q n _ hF (by omega) (Nat.le_refl _)
theorem lineN_of : ∀ (m : Nat) (l : List Nat), m <= l.length -> (∀ j, j < m -> l.getD j 0 ≠ 10) -> (m = l.length \/ l.getD m 0 = 10) -> lineN l = m
 | 0, [], _, _, _ => rfl
 | 0, c :: r, _, _, h => by
  rcases h with h | h
  ·simp at h
  ·unfold lineN; rw [if_pos (by simpa using h)]
 | m + 1, [], h, _, _ => by simp at h
 | m + 1, c :: r, h1, h2, h3 => by
  have h0 := h2 0 (by omega)
  unfold lineN
  rw [if_neg (by simpa using h0), lineN_of m r (by simpa using h1) (fun j hj => by simpa using h2 (j + 1) (by omega)) (by simpa using h3)]
theorem lineN_free : ∀ (r : List Nat) (j : Nat), j < lineN r -> r.getD j 0 ≠ 10
 | [], j, h => by simp [lineN] at h
 | c :: r, j, h => by
  unfold lineN at h
  by_cases hc : c = 10
  ·rw [if_pos hc] at h; omega
  ·rw [if_neg hc] at h
   cases j with
   | zero => simpa using hc
   | succ j => simpa using lineN_free r j (by omega)
def Stg (r q : List Nat) (n : Nat) : Prop := n = q.length \/ q.getD n 0 = 10 \/ (n < r.length /\ q.getD n 0 = r.getD n 0)
theorem Stg.drop {r q : List Nat} {n k : Nat} (h : Stg r q n) (hk : k <= n) : Stg (r.drop k) (q.drop k) (n - k) := by
 unfold Stg
 rw [List.length_drop, List.length_drop, getD_drop, getD_drop, show k + (n - k) = n by omega]
 rcases h with h | h | h
 ·exact .inl (by omega)
 ·exact .inr (.inl h)
 ·exact .inr (.inr ⟨by omega, h.2⟩)
theorem gapN_rem {r : List Nat} (hr : r ≠ []) (h1 : ¬ blkB (r.getD 0 0) = true) (h2 : ¬ r.getD 0 0 = 59) (h3 : hasB r [35, 124] = true) : gapN r = (remN r).getD 0 := by
 unfold gapN; rw [if_neg hr, if_neg h1, if_neg h2, if_pos h3, rm_first h3]
theorem gapN_loc {r q : List Nat} {n : Nat} (hn : gapN r = n) (h0 : n ≠ 0) (hF : Fst r q n) (hS : Stg r q n) : gapN q = n := by
 have e0 := hF.get 0 (by omega)
 obtain ⟨n1, n2⟩ := hF.ne (by omega)
 by_cases h1 : blkB (r.getD 0 0) = true
 ·unfold gapN at hn ⊢
  rw [if_neg n1, if_pos h1] at hn
  rw [if_neg n2, e0, if_pos h1]; exact hn
 ·by_cases h2 : r.getD 0 0 = 59
  ·unfold gapN at hn ⊢
   rw [if_neg n1, if_neg h1, if_pos h2] at hn
   rw [if_neg n2, e0, if_neg h1, if_pos h2]
   refine lineN_of n q hF.le' (fun j hj => ?_) ?_
   ·rw [hF.get j hj]; exact lineN_free r j (by omega)
   ·rcases hS with h | h | ⟨h3, h4⟩
    ·exact .inl h
    ·exact .inr h
    ·refine .inr ?_
     have := lineN_stops r (by omega)
     rw [hn] at this
     rw [h4]; exact this
  ·by_cases h3 : hasB r [35, 124] = true
   ·rw [gapN_rem n1 h1 h2 h3] at hn
    cases he : remN r with
    | none => rw [he] at hn; simp at hn; omega
    | some e =>
     rw [he] at hn
     have hn : e = n := hn
     subst hn
     have hp := (remN_pos he).1
     rw [gapN_rem n2 (by rw [e0]; exact h1) (by rw [e0]; exact h2) (by rw [hF.two hp]; exact h3), remN_fst hF he (Nat.le_refl _)]; rfl
   ·unfold gapN at hn
    rw [if_neg n1, if_neg h1, if_neg h2, if_neg h3] at hn
    exact absurd hn.symm h0
theorem gapN_le (r : List Nat) : gapN r <= r.length := by
 have := (skL_gap (l := r) (k := 0) (Nat.zero_le _)).2.2
 rw [List.drop_zero, Nat.zero_add] at this
 exact this
inductive Gq : List Nat -> Nat -> Prop
 | nil (r : List Nat) : Gq r 0
 | step {r : List Nat} {m : Nat} (h0 : gapN r ≠ 0) (ht : Gq (r.drop (gapN r)) m) : Gq r (gapN r + m)
theorem Gq.le {r : List Nat} {m : Nat} (h : Gq r m) : m <= r.length := by
 induction h with
 | nil r => exact Nat.zero_le _
 | @step r m h0 ht ih =>
  have := gapN_le r
  rw [List.length_drop] at ih
  omega
theorem Gq.loc {r : List Nat} {m : Nat} (h : Gq r m) : ∀ q, Fst r q m -> Stg r q m -> Gq q m := by
 induction h with
 | nil r => intro q _ _; exact .nil q
 | @step r m h0 ht ih =>
  intro q hF hS
  have hl := ht.le
  rw [List.length_drop] at hl
  have hS1 : Stg r q (gapN r) := by
   by_cases hm : m = 0
   ·subst hm; exact hS
   ·exact .inr (.inr ⟨by omega, hF.get _ (by omega)⟩)
  have e := gapN_loc rfl h0 (hF.mono (by omega)) hS1
  have h3 := ih (q.drop (gapN r)) (by have := hF.drop (k := gapN r) (by omega); rwa [show gapN r + m - gapN r = m by omega] at this) (by have := hS.drop (k := gapN r) (by omega); rwa [show gapN r + m - gapN r = m by omega] at this)
  rw [<- e]
  exact .step (by rw [e]; exact h0) (by rw [e]; exact h3)
def Ng (r : List Nat) : Prop := gapN r = 0 /\ hasB r [35, 124] = false
theorem tk_ng {r : List Nat} {x : Tkn} (hr : r ≠ []) (h : tkM r = some x) : Ng r := by
 have h3 : hasB r [35, 124] = false := by
  cases hb : hasB r [35, 124] with
  | false => rfl
  | true => rw [tkM_remark hb] at h; cases h
 refine ⟨?_, h3⟩
 unfold gapN
 rw [if_neg hr]
 have key : dlmB (r.getD 0 0) = true -> r.getD 0 0 ≠ 40 -> r.getD 0 0 ≠ 41 -> r.getD 0 0 ≠ 34 -> False := fun hd n1 n2 n3 => by
  have hw : wordN r = 0 := by
   have := wordN_stop (l := r) (k := 0) (List.length_pos_iff.2 hr) hd
   rwa [List.drop_zero] at this
  have n4 : r.getD 0 0 ≠ 35 := fun e => by rw [e] at hd; exact absurd hd (by decide)
  have n5 : ¬ (r.getD 0 0 = 39 \/ r.getD 0 0 = 96 \/ r.getD 0 0 = 44) := fun e => by
   rcases e with e | e | e <;>(rw [e] at hd; exact absurd hd (by decide))
  unfold tkM at h
  rw [if_neg n1, if_neg n2, if_neg n5, if_neg n3, if_neg n4] at h
  have := otherM_le h
  have hx : x.2.2.2 = wordN r := by
   unfold otherM at h
   repeat' split at h
   all_goals first | (cases h; rfl) | (cases h)
  omega
 by_cases h1 : blkB (r.getD 0 0) = true
 ·exfalso
  have h1' := h1
  unfold blkB at h1'
  simp only [Bool.or_eq_true, beq_iff_eq] at h1'
  exact key (by unfold dlmB; rw [h1]; rfl) (by omega) (by omega) (by omega)
 ·rw [if_neg h1]
  by_cases h2 : r.getD 0 0 = 59
  ·exfalso
   exact key (by rw [h2]; decide) (by omega) (by omega) (by omega)
  ·rw [if_neg h2, h3]; rfl
theorem skL_gq {l : List Nat} : ∀ (f k : Nat), l.length <= k + f -> k <= l.length -> (skL l k).2 = true -> ∃ m, (skL l k).1 = k + m /\ Gq (l.drop k) m /\ Ng (l.drop (k + m))
 | 0, k, h, hk, h2 => by
  have hd : l.drop k = [] := List.drop_eq_nil_of_le (by omega)
  refine ⟨0, ?_, .nil _, ?_⟩
  ·rw [skL_end (by omega)]; rfl
  ·rw [Nat.add_zero, hd]; exact ⟨rfl, rfl⟩
 | f + 1, k, h, hk, h2 => by
  obtain ⟨g1, g2, g3⟩ := skL_gap (l := l) hk
  by_cases hg : gapN (l.drop k) = 0
  ·refine ⟨0, (g1 hg).1, .nil _, hg, ?_⟩
   rw [Nat.add_zero]
   cases hb : hasB (l.drop k) [35, 124] with
   | false => rfl
   | true =>
    exfalso
    by_cases hkl : k < l.length
    ·rw [skL_go hkl] at h2
     unfold gapN at hg
     have hne : l.drop k ≠ [] := by intro e; rw [e] at hb; exact absurd hb (by decide)
     have e0 : (l.drop k).getD 0 0 = l.getD k 0 := by rw [getD_drop]; rfl
     rw [if_neg hne, e0] at hg
     by_cases b1 : blkB (l.getD k 0) = true
     ·rw [if_pos b1] at hg; cases hg
     ·rw [if_neg b1] at hg h2
      by_cases b2 : l.getD k 0 = 59
      ·have := (two_one hb).1
       rw [e0] at this; omega
      ·rw [if_neg b2, if_pos hb] at hg h2
       rw [rm_first hb] at hg
       rw [remL_remN (by omega)] at h2
       cases he : remN (l.drop k) with
       | none => rw [he] at h2; cases h2
       | some e => rw [he] at hg; have := (remN_pos he).1; simp at hg; omega
    ·rw [List.drop_eq_nil_of_le (by omega)] at hb; exact absurd hb (by decide)
  ·rw [g2 hg] at h2 ⊢
   obtain ⟨m, m1, m2, m3⟩ := skL_gq f (k + gapN (l.drop k)) (by omega) g3 h2
   refine ⟨gapN (l.drop k) + m, by omega, .step hg (by rw [List.drop_drop]; exact m2), by rw [<- Nat.add_assoc]; exact m3⟩
theorem gq_skL {r : List Nat} {m : Nat} (h : Gq r m) : ∀ (l : List Nat) (k : Nat), r = l.drop k -> k <= l.length -> Ng (l.drop (k + m)) -> skL l k = (k + m, true) := by
 induction h with
 | nil r =>
  intro l k e hk hn
  obtain ⟨g1, _, _⟩ := skL_gap (l := l) hk
  obtain ⟨a1, a2⟩ := g1 hn.1
  rw [Nat.add_zero] at hn ⊢
  apply Prod.ext
  ·exact a1
  ·cases h2 : (skL l k).2 with
   | true => rfl
   | false => rw [hn.2] at a2; exact absurd (a2 h2) (by decide)
 | @step r m h0 ht ih =>
  intro l k e hk hn
  subst e
  obtain ⟨_, g2, g3⟩ := skL_gap (l := l) hk
  rw [g2 h0, ih l (k + gapN (l.drop k)) (by rw [List.drop_drop]) g3 (by rw [Nat.add_assoc]; exact hn), Nat.add_assoc]
abbrev Ky := Int × Int × ByteArray
def kyT (x : Tkn) : Ky := (x.1, x.2.1, x.2.2.1)
def ky (x : Tok) : Ky := (x.kind, x.num, x.text)
def kyE : Ky := (0, 0, ⟨#[]⟩)
inductive Sq : List Nat -> List Ky -> Prop
 | nil {r : List Nat} (h : Gq r r.length) : Sq r []
 | cons {r : List Nat} {q : Nat} {x : Tkn} {L : List Ky} (hg : Gq r q) (hq : q < r.length) (hx : tkM (r.drop q) = some x) (ht : Sq (r.drop (q + x.2.2.2)) L) : Sq r (kyT x :: L)
theorem toks_sq : ∀ (f : Nat) (l : List Nat) (k : Nat) (T : List Tok), l.length < k + f -> k <= l.length -> toksA f l k = (T, none) -> ∃ L, Sq (l.drop k) L /\ T.map ky = L ++ [kyE]
 | 0, l, k, T, h, hk, e => by omega
 | f + 1, l, k, T, h, hk, e => by
  unfold toksA at e
  by_cases h2 : (skL l k).2 = false
  ·rw [if_pos h2] at e; cases e
  ·rw [if_neg h2] at e
   obtain ⟨m, m1, m2, m3⟩ := skL_gq (l := l) l.length k (by omega) hk (by simpa using h2)
   have hle := skL_le (l := l) hk
   by_cases h3 : l.length <= (skL l k).1
   ·rw [if_pos h3] at e
    cases e
    refine ⟨[], .nil ?_, rfl⟩
    rw [List.length_drop, show l.length - k = m by omega]; exact m2
   ·rw [if_neg h3] at e
    cases h4 : tkM (l.drop (skL l k).1) with
    | none => rw [h4] at e; cases e
    | some x =>
     rw [h4] at e
     simp only [Prod.mk.injEq] at e
     obtain ⟨e1, e2⟩ := e
     have hne : l.drop (skL l k).1 ≠ [] := by intro e; have := congrArg List.length e; rw [List.length_drop, List.length_nil] at this; omega
     have hx := tkM_le hne h4
     rw [List.length_drop] at hx
     obtain ⟨L, s1, s2⟩ := toks_sq f l ((skL l k).1 + x.2.2.2) _ (by omega) (by omega) (Prod.ext rfl e2)
     refine ⟨kyT x :: L, ?_, ?_⟩
     ·refine .cons m2 (by rw [List.length_drop]; omega) (x := x) ?_ ?_
      ·rw [List.drop_drop, <- m1]; exact h4
      ·rw [List.drop_drop, <- Nat.add_assoc, <- m1]; exact s1
     ·rw [<- e1, List.map_cons, s2]; rfl
theorem sq_toks {r : List Nat} {L : List Ky} (h : Sq r L) : ∀ (f : Nat) (l : List Nat) (k : Nat), r = l.drop k -> k <= l.length -> l.length < k + f -> ∃ T, toksA f l k = (T, none) /\ T.map ky = L ++ [kyE] := by
 induction h with
 | @nil r hg =>
  intro f l k e hk hf
  subst e
  obtain ⟨f, rfl⟩ : ∃ f', f = f' + 1 := ⟨f - 1, by omega⟩
  rw [List.length_drop] at hg
  have hs := gq_skL hg l k rfl hk (by rw [show k + (l.length - k) = l.length by omega, List.drop_length]; exact ⟨rfl, rfl⟩)
  exact ⟨_, toksA_end (by rw [hs]) (by rw [hs]; show l.length <= k + (l.length - k); omega), rfl⟩
 | @cons r q x L hg hq hx ht ih =>
  intro f l k e hk hf
  subst e
  obtain ⟨f, rfl⟩ : ∃ f', f = f' + 1 := ⟨f - 1, by omega⟩
  rw [List.length_drop] at hq
  rw [List.drop_drop] at hx
  have hne : l.drop (k + q) ≠ [] := by intro e; have := congrArg List.length e; rw [List.length_drop, List.length_nil] at this; omega
  have hs := gq_skL hg l k rfl hk (tk_ng hne hx)
  have hle := tkM_le hne hx
  rw [List.length_drop] at hle
  obtain ⟨T, t1, t2⟩ := ih f l (k + q + x.2.2.2) (by rw [List.drop_drop, Nat.add_assoc]) (by omega) (by omega)
  refine ⟨⟨x.1, x.2.1, x.2.2.1, k + q, k + q + x.2.2.2⟩ :: T, ?_, by rw [List.map_cons, t2]; rfl⟩
  have := toksA_some (f := f) (l := l) (k := k) (x := x) (by rw [hs]) (by rw [hs]; show ¬ l.length <= k + q; omega) (by rw [hs]; exact hx)
  rw [this, hs]
  simp only
  rw [t1]
theorem sq_ans {l : List Nat} {L : List Ky} (hn : l.length <= 65536) (hd : Dg 256 l) (hv : Vd l) (h : Sq l L) : ∃ T, ansM l = (T, 0, 0) /\ T.map ky = L ++ [kyE] := by
 obtain ⟨T, t1, t2⟩ := sq_toks h (l.length + 1) l 0 (by rw [List.drop_zero]) (Nat.zero_le _) (by omega)
 refine ⟨T, ?_, t2⟩
 unfold ansM toksM
 rw [if_neg (by omega), (badM_vd hd).2 hv, t1]
theorem ans_sq {l : List Nat} {T : List Tok} {p : Int} (hd : Dg 256 l) (h : ansM l = (T, 0, p)) : l.length <= 65536 /\ Vd l /\ p = 0 /\ toksA (l.length + 1) l 0 = (T, none) /\ ∃ L, Sq l L /\ T.map ky = L ++ [kyE] := by
 unfold ansM at h
 by_cases h1 : 65536 < l.length
 ·rw [if_pos h1] at h; cases h
 ·rw [if_neg h1] at h
  cases h2 : badM l with
  | some q => rw [h2] at h; cases h
  | none =>
   rw [h2] at h
   simp only at h
   cases h3 : (toksM l).2 with
   | some q => rw [h3] at h; cases h
   | none =>
    rw [h3] at h
    simp only [Prod.mk.injEq] at h
    have h4 : toksA (l.length + 1) l 0 = (T, none) := Prod.ext h.1 h3
    have := toks_sq _ l 0 T (by omega) (Nat.zero_le _) h4
    rw [List.drop_zero] at this
    exact ⟨by omega, (badM_vd hd).1 h2, h.2.2.symm, h4, this⟩
end Go.Proofs.YtbkfinjajkjhaaaGreatDoor
