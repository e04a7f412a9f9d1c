import Derived.Test.YtbkfinjajkjhaaaGreatDoorLX21
import Derived.Test.YtbkfinjajkjhaaaGreatDoorLX9
set_option linter.unusedVariables false
set_option linter.unusedSimpArgs false
set_option maxRecDepth 100000
namespace Go.Proofs.YtbkfinjajkjhaaaGreatDoor
theorem lineN_stops : ∀ r : List Nat, lineN r < r.length -> r.getD (lineN r) 0 = 10
 | [], h => by simp at h
 | c :: r, h => by
  unfold lineN at h ⊢
  by_cases hc : c = 10
  ·rw [if_pos hc]; exact hc
  ·rw [if_neg hc] at h ⊢
   have := lineN_stops r (by simpa using h)
   simpa using this
theorem rm_last : ∀ (f : Nat) (l : List Nat) (d : Int) (k : Nat), l.length <= k + f -> 1 <= d -> rm l d k ≠ 0 -> l.getD (rm l d k - 1) 0 < 128
 | 0, l, d, k, h, hd, h0 => by rw [rm, if_neg (by omega)] at h0; exact absurd rfl h0
 | f + 1, l, d, k, h, hd, h0 => by
  rw [rm] at h0 ⊢
  split at h0
  ·rename_i h1
   rw [if_pos h1]
   split at h0
   ·rename_i h2
    rw [if_pos h2]
    rw [if_neg (by omega)] at h0 ⊢
    exact rm_last f l (d + 1) (k + 2) (by omega) (by omega) h0
   ·rename_i h2
    rw [if_neg h2]
    split at h0
    ·rename_i h3
     rw [if_pos h3]
     split at h0
     ·rename_i h4
      rw [if_pos h4, show k + 2 - 1 = k + 1 by omega, h3.2]; decide
     ·rename_i h4
      rw [if_neg h4]
      exact rm_last f l (d - 1) (k + 2) (by omega) (by omega) h0
    ·rename_i h3
     rw [if_neg h3]
     rw [if_neg (by omega)] at h0 ⊢
     exact rm_last f l d (k + 1) (by omega) hd h0
  ·exact absurd rfl h0
theorem gapN_bnd {l : List Nat} (h0 : gapN l ≠ 0) : gapN l = l.length \/ l.getD (gapN l) 0 < 128 \/ l.getD (gapN l - 1) 0 < 128 := by
 unfold gapN at h0 ⊢
 split at h0
 ·exact absurd rfl h0
 ·rename_i h1
  rw [if_neg h1]
  split at h0
  ·rename_i h2
   rw [if_pos h2]
   refine .inr (.inr ?_)
   show l.getD 0 0 < 128
   unfold blkB at h2
   simp only [Bool.or_eq_true, beq_iff_eq] at h2
   omega
  ·rename_i h2
   rw [if_neg h2]
   split at h0
   ·rename_i h3
    rw [if_pos h3]
    have hle := lineN_le l
    rcases Nat.lt_or_ge (lineN l) l.length with h | h
    ·exact .inr (.inl (by rw [lineN_stops l h]; decide))
    ·exact .inl (by omega)
   ·rename_i h3
    rw [if_neg h3]
    split at h0
    ·rename_i h4
     rw [if_pos h4]
     refine .inr (.inr ?_)
     have hb := h4
     rw [hasB_two0] at hb
     have h5 := of_decide_eq_true hb
     have e : rm l 0 0 = rm l (0 + 1) (0 + 2) := by
      conv => lhs; rw [rm]
      rw [if_pos (by omega), if_pos ⟨h5.2.1, h5.2.2⟩, if_neg (by omega)]
     rw [e] at h0 ⊢
     exact rm_last l.length l (0 + 1) (0 + 2) (by omega) (by omega) h0
    ·exact absurd rfl h0
theorem bnd_drop {l : List Nat} {k m : Nat} (hk : k <= l.length) (h1 : 1 <= m) (h : m = (l.drop k).length \/ (l.drop k).getD m 0 < 128 \/ (l.drop k).getD (m - 1) 0 < 128) : Bnd l (k + m) := by
 rw [List.length_drop, getD_drop, getD_drop] at h
 rcases h with h | h | h
 ·exact .inr (.inl (by omega))
 ·exact .inr (.inr (.inl h))
 ·exact .inr (.inr (.inr (by rw [show k + m - 1 = k + (m - 1) by omega]; exact h)))
theorem skL_bnd {l : List Nat} : ∀ (f k : Nat), l.length <= k + f -> k <= l.length -> Bnd l k -> Bnd l (skL l k).1 /\ (skL l k).1 <= l.length /\ k <= (skL l k).1
 | 0, k, h, hk, hb => by
  have := skL_gap (l := l) hk
  have hg : gapN (l.drop k) = 0 := by omega
  rw [(this.1 hg).1]
  exact ⟨hb, hk, Nat.le_refl _⟩
 | f + 1, k, h, hk, hb => by
  obtain ⟨g1, g2, g3⟩ := skL_gap (l := l) hk
  by_cases hg : gapN (l.drop k) = 0
  ·rw [(g1 hg).1]
   exact ⟨hb, hk, Nat.le_refl _⟩
  ·rw [g2 hg]
   have := skL_bnd f (k + gapN (l.drop k)) (by omega) g3 (bnd_drop hk (by omega) (gapN_bnd hg))
   exact ⟨this.1, this.2.1, by omega⟩
theorem word_end (r : List Nat) : wordN r = r.length \/ r.getD (wordN r) 0 < 128 := by
 have h := wordN_le r
 rcases Nat.lt_or_ge (wordN r) r.length with h1 | h1
 ·exact .inr (dlmB_low (wordN_stops r h1))
 ·exact .inl (by omega)
theorem txA_quote : ∀ (f : Nat) (r : List Nat) (T : ByteArray) (c k : Nat) {y : ByteArray × Nat × Nat}, txA f r T c k = some y -> ∃ m, y.2.2 = k + m + 1 /\ r.getD m 0 = 34
 | 0, _, _, _, _, _, h => by cases h
 | f + 1, r, T, c, k, y, h => by
  unfold txA at h
  split at h
  ·cases h
  ·split at h
   ·rename_i h1
    cases h
    exact ⟨0, rfl, h1⟩
   ·split at h
    ·cases h
    ·obtain ⟨m, h1, h2⟩ := txA_quote f _ _ _ _ h
     rw [getD_drop] at h2
     exact ⟨(itemM r).2 + m, by omega, h2⟩
theorem textM_end {l : List Nat} {y : ByteArray × Nat} (h : textM l 0 = some y) : l.getD (y.2 - 1) 0 = 34 := by
 unfold textM at h
 cases hx : txL l (0 + 1) ⟨#[]⟩ 0 with
 | none => rw [hx] at h; cases h
 | some z =>
  obtain ⟨T, c, e⟩ := z
  rw [hx] at h
  unfold txFin at h
  simp only at h
  split at h
  ·cases h
   unfold txL at hx
   obtain ⟨m, h1, h2⟩ := txA_quote _ _ _ _ _ hx
   rw [getD_drop] at h2
   simp only at h1
   show l.getD (e - 0 - 1) 0 = 34
   rw [show e - 0 - 1 = 0 + 1 + m by omega]
   exact h2
  ·cases h
theorem labM_end {l : List Nat} {y : Nat × Nat × Nat} (h : labM l = some y) : l.getD (y.2.2 - 1) 0 < 128 /\ (y.1 = 8 \/ y.1 = 9) := by
 unfold labM labF at h
 split at h
 ·cases h
 ·split at h
  ·rename_i h1; cases h
   exact ⟨by show l.getD (_ + 2 - 1) 0 < 128; rw [Nat.add_sub_assoc (by omega)]; rw [h1]; decide, .inl rfl⟩
  ·split at h
   ·rename_i h1; cases h
    exact ⟨by show l.getD (_ + 2 - 1) 0 < 128; rw [Nat.add_sub_assoc (by omega)]; rw [h1]; decide, .inr rfl⟩
   ·cases h
def TkEnd (r : List Nat) (x : Tkn) : Prop := x.1 ≠ 0 /\ (x.2.2.2 = r.length \/ r.getD x.2.2.2 0 < 128 \/ r.getD (x.2.2.2 - 1) 0 < 128)
theorem otherM_end {r : List Nat} {x : Tkn} (h : otherM r = some x) : TkEnd r x := by
 have hw := word_end r
 have key : ∀ (a b : Int) (t : ByteArray), a ≠ 0 -> TkEnd r (a, b, t, wordN r) := fun a b t ha => ⟨ha, hw.elim .inl (fun h => .inr (.inl h))⟩
 unfold otherM at h
 split at h
 ·cases h; exact key _ _ _ (by decide)
 ·split at h
  ·split at h
   ·cases h
   ·cases h; exact key _ _ _ (by decide)
  ·split at h
   ·cases h; exact key _ _ _ (by decide)
   ·cases h
theorem hashM_end {r : List Nat} {x : Tkn} (h : hashM r = some x) : TkEnd r x := by
 have hw := word_end r
 unfold hashM at h
 split at h
 ·rename_i h1
  cases h
  rw [hasB_two0] at h1
  have := of_decide_eq_true h1
  exact ⟨by decide, .inr (.inr (by show r.getD 1 0 < 128; omega))⟩
 ·split at h
  ·rename_i h1
   cases h
   obtain ⟨q, rfl⟩ := hasB_four h1
   exact ⟨by decide, .inr (.inr (by show 40 < 128; decide))⟩
  ·split at h
   ·rename_i h1
    cases h
    rw [hasB_two0] at h1
    have := of_decide_eq_true h1
    exact ⟨by decide, .inr (.inr (by show r.getD 1 0 < 128; omega))⟩
   ·split at h
    ·obtain ⟨y, hy, rfl⟩ := Option.map_eq_some_iff.1 h
     refine ⟨by show (12 : Int) ≠ 0; decide, ?_⟩
     unfold charM at hy
     split at hy
     ·cases hy
     ·rename_i hl
      obtain ⟨v, hv, rfl⟩ := Option.map_eq_some_iff.1 hy
      have hr := runeL_le (t := r.drop 2) (by intro e; have := congrArg List.length e; rw [List.length_drop, List.length_nil] at this; omega)
      rw [List.length_drop] at hr
      have h5 := word_end (r.drop (2 + (runeL (r.drop 2)).2))
      rw [List.length_drop, getD_drop] at h5
      show 2 + (runeL (r.drop 2)).2 + wordN (r.drop (2 + (runeL (r.drop 2)).2)) = r.length \/ _
      rcases h5 with h5 | h5
      ·exact .inl (by omega)
      ·exact .inr (.inl h5)
    ·split at h
     ·rename_i y hy
      cases h
      have := labM_end hy
      refine ⟨?_, .inr (.inr this.1)⟩
      show ((y.1 : Nat) : Int) ≠ 0
      omega
     ·obtain ⟨y, hy, rfl⟩ := Option.map_eq_some_iff.1 h
      exact ⟨by show (10 : Int) ≠ 0; decide, hw.elim .inl (fun h => .inr (.inl h))⟩
theorem tkM_end {r : List Nat} {x : Tkn} (h : tkM r = some x) : TkEnd r x := by
 unfold tkM at h
 split at h
 ·rename_i h1; cases h; exact ⟨by decide, .inr (.inr (by show r.getD 0 0 < 128; omega))⟩
 ·split at h
  ·rename_i h1; cases h; exact ⟨by decide, .inr (.inr (by show r.getD 0 0 < 128; omega))⟩
  ·split at h
   ·rename_i h1
    split at h
    ·rename_i h2
     cases h
     rw [hasB_two0] at h2
     have := of_decide_eq_true h2
     exact ⟨by show (5 : Int) ≠ 0; decide, .inr (.inr (by show r.getD 1 0 < 128; omega))⟩
    ·cases h; exact ⟨by show (5 : Int) ≠ 0; decide, .inr (.inr (by show r.getD 0 0 < 128; omega))⟩
   ·split at h
    ·obtain ⟨y, hy, rfl⟩ := Option.map_eq_some_iff.1 h
     have := textM_end hy
     exact ⟨by show (13 : Int) ≠ 0; decide, .inr (.inr (by show r.getD (y.2 - 1) 0 < 128; omega))⟩
    ·split at h
     ·exact hashM_end h
     ·exact otherM_end h
end Go.Proofs.YtbkfinjajkjhaaaGreatDoor
namespace Go.Proofs.YtbkfinjajkjhaaaGreatDoor
open Go.RowKit
def stepM (l : List Nat) (k : Nat) : Option Tok :=
 if l.length <= (skL l k).1 then some ⟨0, 0, ⟨#[]⟩, l.length, l.length⟩
 else (tkM (l.drop (skL l k).1)).map (fun x => ⟨x.1, x.2.1, x.2.2.1, (skL l k).1, (skL l k).1 + x.2.2.2⟩)
theorem skL_wrong {l : List Nat} : ∀ (f k : Nat), l.length <= k + f -> k <= l.length -> (skL l k).2 = false -> hasB (l.drop (skL l k).1) [35, 124] = true
 | 0, k, h, hk, h2 => by rw [skL_end (by omega)] at h2; cases h2
 | f + 1, k, h, hk, h2 => by
  obtain ⟨g1, g2, g3⟩ := skL_gap (l := l) hk
  by_cases hg : gapN (l.drop k) = 0
  ·obtain ⟨a, b⟩ := g1 hg
   rw [a]; exact b h2
  ·rw [g2 hg] at h2 ⊢
   exact skL_wrong f _ (by omega) g3 h2
theorem hasB_pos {r : List Nat} (h : hasB r [35, 124] = true) : r ≠ [] := by
 intro e; subst e; exact absurd h (by decide)
theorem toks_wrong {l : List Nat} {k : Nat} (hk : k <= l.length) (h : (skL l k).2 = false) : stepM l k = none := by
 have h1 := skL_wrong (l := l) l.length k (by omega) hk h
 have h2 := hasB_pos h1
 have h3 : ¬ l.length <= (skL l k).1 := fun e => h2 (List.drop_eq_nil_of_le e)
 unfold stepM
 rw [if_neg h3, tkM_remark h1]; rfl
theorem toks_none {f : Nat} {l : List Nat} {k : Nat} (hk : k <= l.length) (h : stepM l k = none) : toksA (f + 1) l k = ([], some (skL l k).1) := by
 by_cases h2 : (skL l k).2 = false
 ·exact toksA_wrong h2
 ·have h2 : (skL l k).2 = true := by simpa using h2
  unfold stepM at h
  by_cases h3 : l.length <= (skL l k).1
  ·rw [if_pos h3] at h; cases h
  ·rw [if_neg h3] at h
   cases h4 : tkM (l.drop (skL l k).1) with
   | none => exact toksA_none h2 h3 h4
   | some x => rw [h4] at h; cases h
theorem step_right {l : List Nat} {k : Nat} {x : Tok} (hk : k <= l.length) (h : stepM l k = some x) : (skL l k).2 = true := by
 cases h2 : (skL l k).2 with
 | true => rfl
 | false => rw [toks_wrong hk h2] at h; cases h
theorem step_kind {l : List Nat} {k : Nat} {x : Tok} (hk : k <= l.length) (hb : Bnd l k) (h : stepM l k = some x) :
  (x.kind = 0 /\ l.length <= (skL l k).1 /\ x = ⟨0, 0, ⟨#[]⟩, l.length, l.length⟩) \/ (x.kind ≠ 0 /\ k < x.un /\ x.un <= l.length /\ Bnd l x.un /\ (∀ f, toksA (f + 1) l k = (x :: (toksA f l x.un).1, (toksA f l x.un).2))) := by
 have hr := step_right hk h
 obtain ⟨b1, b2, b3⟩ := skL_bnd (l := l) l.length k (by omega) hk hb
 unfold stepM at h
 by_cases h3 : l.length <= (skL l k).1
 ·rw [if_pos h3] at h
  cases h
  exact .inl ⟨rfl, h3, rfl⟩
 ·rw [if_neg h3] at h
  cases h4 : tkM (l.drop (skL l k).1) with
  | none => rw [h4] at h; cases h
  | some y =>
   rw [h4] at h
   cases h
   have hne : l.drop (skL l k).1 ≠ [] := by intro e; have := congrArg List.length e; rw [List.length_drop, List.length_nil] at this; omega
   obtain ⟨e1, e2⟩ := tkM_end h4
   obtain ⟨m1, m2⟩ := tkM_le hne h4
   rw [List.length_drop] at m2
   exact .inr ⟨e1, by show k < _ + _; omega, by show _ + _ <= _; omega, bnd_drop b2 m1 e2, fun f => toksA_some hr h3 h4⟩
theorem step_last {f : Nat} {l : List Nat} {k : Nat} {x : Tok} (hk : k <= l.length) (h : stepM l k = some x) (h0 : l.length <= (skL l k).1) : toksA (f + 1) l k = ([⟨0, 0, ⟨#[]⟩, l.length, l.length⟩], none) := toksA_end (step_right hk h) h0
end Go.Proofs.YtbkfinjajkjhaaaGreatDoor
