import Derived.Test.YtbkfinjajkjhaaaGreatDoorLM11
set_option linter.unusedVariables false
set_option linter.unusedSimpArgs false
set_option maxRecDepth 100000
namespace Go.Proofs.YtbkfinjajkjhaaaGreatDoor
structure Fst (r q : List Nat) (n : Nat) : Prop where
 le : n <= r.length
 le' : n <= q.length
 get : ∀ j, j < n -> q.getD j 0 = r.getD j 0
def Stp (r q : List Nat) (n : Nat) : Prop := n = q.length \/ dlmB (q.getD n 0) = true \/ (n < r.length /\ q.getD n 0 = r.getD n 0)
theorem Fst.mono {r q : List Nat} {n m : Nat} (h : Fst r q n) (hm : m <= n) : Fst r q m := ⟨Nat.le_trans hm h.le, Nat.le_trans hm h.le', fun j hj => h.get j (by omega)⟩
theorem Fst.take {r q : List Nat} {n : Nat} (h : Fst r q n) : q.take n = r.take n := by
 have h1 := h.le
 have h2 := h.le'
 apply List.ext_getElem (by rw [List.length_take, List.length_take]; omega)
 intro i a b
 rw [List.length_take] at a b
 have := h.get i (by omega)
 rw [List.getD_eq_getElem?_getD, List.getD_eq_getElem?_getD, List.getElem?_eq_getElem (by omega), List.getElem?_eq_getElem (by omega)] at this
 rw [List.getElem_take, List.getElem_take]
 exact this
theorem Fst.drop {r q : List Nat} {n k : Nat} (h : Fst r q n) (hk : k <= n) : Fst (r.drop k) (q.drop k) (n - k) := by
 have h1 := h.le
 have h2 := h.le'
 refine ⟨by rw [List.length_drop]; omega, by rw [List.length_drop]; omega, fun j hj => ?_⟩
 rw [getD_drop, getD_drop]
 exact h.get _ (by omega)
theorem Stp.drop {r q : List Nat} {n k : Nat} (h : Stp r q n) (hk : k <= n) : Stp (r.drop k) (q.drop k) (n - k) := by
 unfold Stp
 rw [List.length_drop, List.length_drop, getD_drop, getD_drop, show k + (n - k) = n by omega]
 rcases h with h | h | h
 ·exact .inl (by omega)
 ·exact .inr (.inl h)
 ·exact .inr (.inr ⟨by omega, h.2⟩)
theorem Fst.has {r q t : List Nat} {n : Nat} (h : Fst r q n) (hn : t.length <= n) : hasB q t = hasB r t := by
 unfold hasB
 rw [(h.mono hn).take]
theorem Fst.ne {r q : List Nat} {n : Nat} (h : Fst r q n) (hn : 1 <= n) : r ≠ [] /\ q ≠ [] := by
 have h1 := h.le
 have h2 := h.le'
 constructor
 ·intro e; rw [e, List.length_nil] at h1; omega
 ·intro e; rw [e, List.length_nil] at h2; omega
theorem wordN_of : ∀ (m : Nat) (l : List Nat), m <= l.length -> (∀ j, j < m -> dlmB (l.getD j 0) = false) -> (m = l.length \/ dlmB (l.getD m 0) = true) -> wordN l = m
 | 0, [], _, _, _ => rfl
 | 0, c :: r, _, _, h => by
  rcases h with h | h
  ·simp at h
  ·unfold wordN; rw [if_pos (by simpa using h)]
 | m + 1, [], h, _, _ => by simp at h
 | m + 1, c :: r, h1, h2, h3 => by
  have h0 := h2 0 (by omega)
  unfold wordN
  rw [if_neg (by simpa using h0), wordN_of m r (by simpa using h1) (fun j hj => by simpa using h2 (j + 1) (by omega)) (by simpa using h3)]
theorem wordN_free : ∀ (r : List Nat) (j : Nat), j < wordN r -> dlmB (r.getD j 0) = false
 | [], j, h => by simp [wordN] at h
 | c :: r, j, h => by
  unfold wordN at h
  by_cases hc : dlmB c = true
  ·rw [if_pos hc] at h; omega
  ·rw [if_neg hc] at h
   cases j with
   | zero => simpa using hc
   | succ j => simpa using wordN_free r j (by omega)
theorem word_loc {r q : List Nat} {n : Nat} (hF : Fst r q n) (hS : Stp r q n) (hw : wordN r = n) : wordN q = n := by
 refine wordN_of n q hF.le' (fun j hj => ?_) ?_
 ·rw [hF.get j hj]; exact wordN_free r j (by omega)
 ·rcases hS with h | h | ⟨h1, h2⟩
  ·exact .inl h
  ·exact .inr h
  ·refine .inr ?_
   have := wordN_stops r (by omega)
   rw [hw] at this
   rw [h2]; exact this
theorem semiN_of : ∀ (m : Nat) (l : List Nat), m < l.length -> (∀ j, j < m -> l.getD j 0 ≠ 59) -> l.getD m 0 = 59 -> semiN l = m
 | _, [], h, _, _ => by simp at h
 | 0, c :: r, _, _, h => by unfold semiN; rw [if_pos (by simpa using h)]
 | m + 1, c :: r, h1, h2, h3 => by
  have h0 := h2 0 (by omega)
  unfold semiN
  rw [if_neg (by simpa using h0), semiN_of m r (by simpa using h1) (fun j hj => by simpa using h2 (j + 1) (by omega)) (by simpa using h3)]
theorem semiN_free : ∀ (r : List Nat) (j : Nat), j < semiN r -> r.getD j 0 ≠ 59
 | [], j, h => by simp [semiN] at h
 | c :: r, j, h => by
  unfold semiN at h
  by_cases hc : c = 59
  ·rw [if_pos hc] at h; omega
  ·rw [if_neg hc] at h
   cases j with
   | zero => simpa using hc
   | succ j => simpa using semiN_free r j (by omega)
theorem decN_fst {r q : List Nat} {n : Nat} (hF : Fst r q n) (hr : r ≠ []) (hd : decN r ≠ (65533, 1)) (hk : (decN r).2 <= n) : decN q = decN r := by
 have h0 := (decN_le hr).1
 have l1 := hF.le
 have l2 := hF.le'
 have e0 := hF.get 0 (by omega)
 by_cases h : r.getD 0 0 < 128
 ·rw [decN_low h, decN_low (by rw [e0]; exact h), e0]
 ·unfold decN at hd hk ⊢
  rw [e0]
  unfold Lib.decodeN at hd hk ⊢
  rw [if_neg h] at hd hk ⊢
  rw [if_neg h]
  by_cases c1 : r.getD 0 0 / 32 = 6 /\ (1 < r.length /\ r.getD 1 0 / 64 = 2)
  ·rw [if_pos c1] at hd hk ⊢
   by_cases c2 : r.getD 0 0 % 32 * 64 + r.getD 1 0 % 64 >= 128
   ·rw [if_pos c2] at hk ⊢
    have hk : 2 <= n := hk
    rw [hF.get 1 (by omega), if_pos ⟨c1.1, by omega, c1.2.2⟩, if_pos c2]
   ·rw [if_neg c2] at hd; exact absurd rfl hd
  ·rw [if_neg c1] at hd hk ⊢
   by_cases c3 : r.getD 0 0 / 16 = 14 /\ (1 < r.length /\ r.getD 1 0 / 64 = 2) /\ (2 < r.length /\ r.getD 2 0 / 64 = 2)
   ·rw [if_pos c3] at hd hk ⊢
    split at hd
    ·rename_i c4
     rw [if_pos c4] at hk ⊢
     have hk : 3 <= n := hk
     have c31 := c3.1
     rw [hF.get 1 (by omega), hF.get 2 (by omega), if_neg (fun h => by have := h.1; omega), if_pos ⟨c3.1, ⟨by omega, c3.2.1.2⟩, by omega, c3.2.2.2⟩, if_pos c4]
    ·exact absurd rfl hd
   ·rw [if_neg c3] at hd hk ⊢
    by_cases c5 : r.getD 0 0 / 8 = 30 /\ (1 < r.length /\ r.getD 1 0 / 64 = 2) /\ (2 < r.length /\ r.getD 2 0 / 64 = 2) /\ (3 < r.length /\ r.getD 3 0 / 64 = 2)
    ·rw [if_pos c5] at hd hk ⊢
     split at hd
     ·rename_i c6
      rw [if_pos c6] at hk ⊢
      have hk : 4 <= n := hk
      have c51 := c5.1
      rw [hF.get 1 (by omega), hF.get 2 (by omega), hF.get 3 (by omega), if_neg (fun h => by have := h.1; omega), if_neg (fun h => by have := h.1; omega), if_pos ⟨c5.1, ⟨by omega, c5.2.1.2⟩, ⟨by omega, c5.2.2.1.2⟩, by omega, c5.2.2.2.2⟩, if_pos c6]
     ·exact absurd rfl hd
    ·rw [if_neg c5] at hd; exact absurd rfl hd
theorem escM_fst {r q : List Nat} {n v m : Nat} (hF : Fst r q n) (h : escM r = some (v, m)) (hm : m <= n) : escM q = some (v, m) := by
 have l1 := hF.le
 have l2 := hF.le'
 unfold escM at h ⊢
 by_cases c0 : r.length <= 1
 ·rw [if_pos c0] at h; cases h
 ·rw [if_neg c0] at h
  have h2 : 2 <= m := by
   repeat' split at h
   all_goals first
    | (cases h; omega)
    | (obtain ⟨u, _, hu⟩ := Option.map_eq_some_iff.1 h; cases hu; omega)
    | (cases h)
  have e1 := hF.get 1 (by omega)
  rw [if_neg (by omega), e1]
  repeat' split at h
  ·rename_i c; rw [if_pos c]; exact h
  ·rename_i c1 c; rw [if_neg c1, if_pos c]; exact h
  ·rename_i c1 c2 c; rw [if_neg c1, if_neg c2, if_pos c]; exact h
  ·rename_i c1 c2 c3 c; rw [if_neg c1, if_neg c2, if_neg c3, if_pos c]; exact h
  ·rename_i c1 c2 c3 c4 c; rw [if_neg c1, if_neg c2, if_neg c3, if_neg c4, if_pos c]; exact h
  ·rename_i c1 c2 c3 c4 c5 c hs
   obtain ⟨u, hu, hx⟩ := Option.map_eq_some_iff.1 h
   cases hx
   have hq : semiN (q.drop 2) = semiN (r.drop 2) := by
    have hs' := hs
    rw [List.length_drop] at hs'
    refine semiN_of _ _ (by rw [List.length_drop]; omega) (fun j hj => ?_) ?_
    ·rw [getD_drop, hF.get _ (by omega), <- getD_drop]; exact semiN_free _ _ hj
    ·rw [getD_drop, hF.get _ (by omega), <- getD_drop]; exact semiN_first _ hs
   have ht : (q.drop 2).take (semiN (r.drop 2)) = (r.drop 2).take (semiN (r.drop 2)) := ((hF.drop (k := 2) (by omega)).mono (by omega)).take
   rw [if_neg c1, if_neg c2, if_neg c3, if_neg c4, if_neg c5, if_pos c, hq, if_pos (by rw [List.length_drop]; omega), ht, hu]
   rfl
  ·cases h
  ·cases h
theorem itemM_fst {r q : List Nat} {n : Nat} (hF : Fst r q n) (dr : Dg 256 r) (dq : Dg 256 q) (h0 : (itemM r).2 ≠ 0) (hn : (itemM r).2 <= n) : itemM q = itemM r := by
 have e0 := hF.get 0 (by omega)
 have hne := (hF.ne (by omega)).1
 unfold itemM at h0 hn ⊢
 rw [e0]
 by_cases h : r.getD 0 0 = 92
 ·rw [if_pos h] at h0 hn ⊢
  rw [if_pos h]
  unfold escV at h0 hn ⊢
  cases he : escM r with
  | none => rw [he] at h0; exact absurd rfl h0
  | some y =>
   obtain ⟨v, m⟩ := y
   rw [he] at hn
   rw [escM_fst hF he hn]
 ·rw [if_neg h] at h0 hn ⊢
  rw [if_neg h]
  rw [runeL_dec dr] at h0 hn ⊢
  rw [runeL_dec dq]
  by_cases hd : decN r = (65533, 1)
  ·rw [if_pos hd] at h0; exact absurd rfl h0
  ·rw [if_neg hd] at h0 hn ⊢
   rw [decN_fst hF hne hd hn, if_neg hd]
theorem txA_fst : ∀ (f : Nat) (r : List Nat) (T : ByteArray) (c k : Nat) (y : ByteArray × Nat × Nat), txA f r T c k = some y -> ∀ (q : List Nat) (n g : Nat), Fst r q n -> y.2.2 <= k + n -> q.length <= g -> Dg 256 r -> Dg 256 q -> txA g q T c k = some y
 | 0, _, _, _, _, _, h, _, _, _, _, _, _, _, _ => by cases h
 | f + 1, r, T, c, k, y, h, q, n, g, hF, hy, hg, dr, dq => by
  have hl := txA_le _ _ _ _ _ _ h
  have l2 := hF.le'
  obtain ⟨g, rfl⟩ : ∃ g', g = g' + 1 := ⟨g - 1, by omega⟩
  have e0 := hF.get 0 (by omega)
  obtain ⟨n1, n2⟩ := hF.ne (by omega)
  unfold txA at h ⊢
  rw [if_neg n1] at h
  rw [if_neg n2, e0]
  by_cases h1 : r.getD 0 0 = 34
  ·rw [if_pos h1] at h ⊢; exact h
  ·rw [if_neg h1] at h ⊢
   by_cases h2 : (itemM r).2 = 0
   ·rw [if_pos h2] at h; cases h
   ·rw [if_neg h2] at h
    have hl2 := txA_le _ _ _ _ _ _ h
    have e := itemM_fst hF dr dq h2 (by omega)
    rw [e, if_neg h2]
    exact txA_fst f _ _ _ _ y h _ (n - (itemM r).2) g (hF.drop (by omega)) (by omega) (by rw [List.length_drop]; omega) (dr.drop _) (dq.drop _)
theorem textM_fst {r q : List Nat} {n : Nat} {y : ByteArray × Nat} (hF : Fst r q n) (dr : Dg 256 r) (dq : Dg 256 q) (h : textM r 0 = some y) (hn : y.2 <= n) : textM q 0 = some y := by
 unfold textM at h ⊢
 cases hx : txL r (0 + 1) ⟨#[]⟩ 0 with
 | none => rw [hx] at h; cases h
 | some z =>
  obtain ⟨T, c, e⟩ := z
  rw [hx] at h
  unfold txFin at h
  simp only at h
  split at h
  ·rename_i hc
   cases h
   have hn : e <= n := hn
   unfold txL at hx ⊢
   have hle := txA_le _ _ _ _ _ _ hx
   have hle : 0 + 1 + 1 <= e := hle.1
   have := txA_fst _ _ _ _ _ _ hx (q.drop (0 + 1)) (n - (0 + 1)) (q.length - (0 + 1)) (hF.drop (by omega)) (by show e <= _; omega) (by rw [List.length_drop]; exact Nat.le_refl _) (dr.drop _) (dq.drop _)
   rw [this]
   show (if c <= 1024 then some (T, e - 0) else none) = _
   rw [if_pos hc]
  ·cases h
theorem charM_loc {r q : List Nat} {n : Nat} {y : Nat × Nat} (hF : Fst r q n) (hS : Stp r q n) (dr : Dg 256 r) (dq : Dg 256 q) (hv : Vd (r.drop 2)) (h : charM r = some y) (hn : y.2 = n) : charM q = some y := by
 have l2 := hF.le'
 rw [charM_is dr hv] at h
 by_cases hl : r.length <= 2
 ·rw [if_pos hl] at h; cases h
 ·rw [if_neg hl] at h
  obtain ⟨v, hu, rfl⟩ := Option.map_eq_some_iff.1 h
  simp only at hn
  have hne : r.drop 2 ≠ [] := by intro e; have := congrArg List.length e; rw [List.length_drop, List.length_nil] at this; omega
  have hd1 := (decN_le hne).1
  have hb := hv.first hne
  have F2 := hF.drop (k := 2) (by omega)
  have hde := decN_fst F2 hne hb (by omega)
  have hw := word_loc (hF.drop (k := 2 + (decN (r.drop 2)).2) (by omega)) (hS.drop (by omega)) (by omega)
  have hru : runeL (q.drop 2) = decN (r.drop 2) := by rw [runeL_dec (dq.drop 2), hde, if_neg hb]
  unfold charM
  rw [if_neg (by omega), hru, hw]
  have ht : (q.drop 2).take ((decN (r.drop 2)).2 + (n - (2 + (decN (r.drop 2)).2))) = (r.drop 2).take ((decN (r.drop 2)).2 + wordN (r.drop (2 + (decN (r.drop 2)).2))) := by
   rw [show (decN (r.drop 2)).2 + (n - (2 + (decN (r.drop 2)).2)) = n - 2 by omega, show (decN (r.drop 2)).2 + wordN (r.drop (2 + (decN (r.drop 2)).2)) = n - 2 by omega]
   exact F2.take
  rw [ht, hu]
  show some (v, _) = some (v, _)
  rw [show 2 + (decN (r.drop 2)).2 + (n - (2 + (decN (r.drop 2)).2)) = 2 + (decN (r.drop 2)).2 + wordN (r.drop (2 + (decN (r.drop 2)).2)) by omega]
theorem dgA_le : ∀ (f : Nat) (r : List Nat) (n k : Nat), k <= (dgA f r n k).2
 | 0, _, _, _ => Nat.le_refl _
 | f + 1, r, n, k => by
  unfold dgA
  split
  ·exact Nat.le_trans (Nat.le_succ k) (dgA_le f _ _ _)
  ·exact Nat.le_refl _
theorem dgA_fst : ∀ (f : Nat) (r q : List Nat) (n k m : Nat), Fst r q m -> (dgA f r n k).2 + 1 <= k + m -> dgA f q n k = dgA f r n k
 | 0, _, _, _, _, _, _, _ => rfl
 | f + 1, r, q, n, k, m, hF, hm => by
  have hk := dgA_le (f + 1) r n k
  have hm0 : 1 <= m := by omega
  have e0 := hF.get 0 (by omega)
  obtain ⟨n1, n2⟩ := hF.ne hm0
  clear hk
  unfold dgA at hm ⊢
  rw [e0]
  by_cases h : r ≠ [] /\ 48 <= r.getD 0 0 /\ r.getD 0 0 <= 57
  ·rw [if_pos h] at hm ⊢
   rw [if_pos ⟨n2, h.2⟩]
   exact dgA_fst f _ _ _ _ (m - 1) (hF.drop (by omega)) (by omega)
  ·rw [if_neg h, if_neg (fun h2 => h ⟨n1, h2.2⟩)]
theorem labM_fst {r q : List Nat} {n : Nat} {y : Nat × Nat × Nat} (hF : Fst r q n) (h : labM r = some y) (hn : y.2.2 = n) : labM q = some y := by
 have l2 := hF.le'
 unfold labM at h ⊢
 have hc : (dgA 9 (r.drop 1) 0 0).2 + 2 = n := by
  unfold labF at h
  split at h
  ·cases h
  ·split at h
   ·cases h; exact hn
   ·split at h
    ·cases h; exact hn
    ·cases h
 have e := dgA_fst 9 (r.drop 1) (q.drop 1) 0 0 (n - 1) (hF.drop (by omega)) (by omega)
 rw [e]
 obtain ⟨z, hz⟩ : ∃ z, z = dgA 9 (r.drop 1) 0 0 := ⟨_, rfl⟩
 rw [<- hz] at h hc ⊢
 unfold labF at h ⊢
 have e2 := hF.get (z.2 + 1) (by omega)
 have l1 := hF.le
 split at h
 ·cases h
 ·rename_i hh
  rw [if_neg (by omega), e2]
  exact h
theorem lab_digit {r : List Nat} {y : Nat × Nat × Nat} (h : labM r = some y) : 48 <= r.getD 1 0 /\ r.getD 1 0 <= 57 := by
 unfold labM labF at h
 split at h
 ·cases h
 ·rename_i hh
  have h0 : (dgA 9 (r.drop 1) 0 0).2 ≠ 0 := by omega
  unfold dgA at h0
  split at h0
  ·rename_i h1
   rw [getD_drop] at h1
   exact h1.2
  ·exact absurd rfl h0
theorem no_lab {r : List Nat} (h : ¬ (48 <= r.getD 1 0 /\ r.getD 1 0 <= 57)) : labM r = none := by
 cases hl : labM r with
 | none => rfl
 | some y => exact absurd (lab_digit hl) h
theorem four_one {r : List Nat} (h : hasB r [35, 117, 56, 40] = true) : r.getD 1 0 = 117 := by
 obtain ⟨q, rfl⟩ := hasB_four h
 rfl
theorem two_one {r : List Nat} {a b : Nat} (h : hasB r [a, b] = true) : r.getD 0 0 = a /\ r.getD 1 0 = b := by
 rw [hasB_two0] at h
 exact (of_decide_eq_true h).2
theorem no_two {r : List Nat} {a b : Nat} (h : r.getD 1 0 ≠ b) : hasB r [a, b] = false := by
 cases hb : hasB r [a, b] with
 | false => rfl
 | true => exact absurd (two_one hb).2 h
theorem no_four {r : List Nat} (h : r.getD 1 0 ≠ 117) : hasB r [35, 117, 56, 40] = false := by
 cases hb : hasB r [35, 117, 56, 40] with
 | false => rfl
 | true => exact absurd (four_one hb) h
theorem truth_one {r : List Nat} {v : Int} (h : truthM (r.take (wordN r)) = some v) : r.getD 1 0 = 116 \/ r.getD 1 0 = 102 := by
 have key : ∀ t : List Nat, r.take (wordN r) = t -> 2 <= t.length -> r.getD 1 0 = t.getD 1 0 := fun t e h2 => by
  rw [<- e, getD_take_lt]
  rw [<- e, List.length_take] at h2; omega
 unfold truthM at h
 split at h
 ·rename_i h1
  rcases h1 with h1 | h1 <;> exact .inl (key _ h1 (by simp))
 ·split at h
  ·rename_i h1
   rcases h1 with h1 | h1 <;> exact .inr (key _ h1 (by simp))
  ·cases h
theorem hashM_loc {r q : List Nat} {x : Tkn} (hF : Fst r q x.2.2.2) (hS : Stp r q x.2.2.2) (dr : Dg 256 r) (dq : Dg 256 q) (hv : Vd r) (h : hashM r = some x) : hashM q = some x := by
 have l1 := hF.le
 unfold hashM at h ⊢
 by_cases c1 : hasB r [35, 40] = true
 ·rw [if_pos c1] at h
  cases h
  rw [if_pos (by rw [hF.has (t := [35, 40]) (by exact Nat.le_refl 2)]; exact c1)]
 ·rw [if_neg c1] at h
  by_cases c2 : hasB r [35, 117, 56, 40] = true
  ·rw [if_pos c2] at h
   cases h
   have e1 := hF.get 1 (by show 1 < 4; omega)
   rw [four_one c2] at e1
   rw [no_two (by rw [e1]; decide), if_neg (by decide), if_pos (by rw [hF.has (t := [35, 117, 56, 40]) (by exact Nat.le_refl 4)]; exact c2)]
  ·rw [if_neg c2] at h
   by_cases c3 : hasB r [35, 59] = true
   ·rw [if_pos c3] at h
    cases h
    have e1 := hF.get 1 (by show 1 < 2; omega)
    rw [(two_one c3).2] at e1
    rw [no_two (by rw [e1]; decide), no_four (by rw [e1]; decide), if_neg (by decide), if_neg (by decide), if_pos (by rw [hF.has (t := [35, 59]) (by exact Nat.le_refl 2)]; exact c3)]
   ·rw [if_neg c3] at h
    by_cases c4 : hasB r [35, 92] = true
    ·rw [if_pos c4] at h
     obtain ⟨y, hy, rfl⟩ := Option.map_eq_some_iff.1 h
     have hy2 := (charM_le hy).1
     have e1 := hF.get 1 (by show 1 < y.2; omega)
     have c41 := (two_one c4).2
     rw [c41] at e1
     have hv2 : Vd (r.drop 2) := hv.drop 2 (by have : 2 <= r.length := hasB_len c4; exact this) (.inr (.inr (.inr (by show r.getD 1 0 < 128; omega))))
     rw [no_two (by rw [e1]; decide), no_four (by rw [e1]; decide), if_neg (by decide), if_neg (by decide), no_two (by rw [e1]; decide), if_neg (by decide), if_pos (by rw [hF.has (t := [35, 92]) (by exact hy2)]; exact c4), charM_loc hF hS dr dq hv2 hy rfl]
     rfl
    ·rw [if_neg c4] at h
     cases hl : labM r with
     | some y =>
      rw [hl] at h
      cases h
      have hy2 := (labM_le hl).1
      have e1 := hF.get 1 (by show 1 < y.2.2; omega)
      have hd := lab_digit hl
      rw [no_two (by rw [e1]; omega), no_four (by rw [e1]; omega), if_neg (by decide), if_neg (by decide), no_two (by rw [e1]; omega), if_neg (by decide), no_two (by rw [e1]; omega), if_neg (by decide), labM_fst hF hl rfl]
     | none =>
      rw [hl] at h
      obtain ⟨v, hv3, rfl⟩ := Option.map_eq_some_iff.1 h
      have h2 := truthM_len hv3
      rw [List.length_take] at h2
      have e1 := hF.get 1 (by show 1 < wordN r; omega)
      have ho := truth_one hv3
      rw [<- e1] at ho
      have hw := word_loc hF hS rfl
      have ht := hF.take
      simp only at hw ht
      rw [no_two (by omega), no_four (by omega), if_neg (by decide), if_neg (by decide), no_two (by omega), if_neg (by decide), no_two (by omega), if_neg (by decide), no_lab (by omega)]
      simp only
      rw [hw, ht, hv3]; rfl
theorem otherM_loc {r q : List Nat} {x : Tkn} (hF : Fst r q x.2.2.2) (hS : Stp r q x.2.2.2) (h : otherM r = some x) : otherM q = some x := by
 have hx : x.2.2.2 = wordN r := by
  unfold otherM at h
  repeat' split at h
  all_goals first | (cases h; rfl) | (cases h)
 have hw := word_loc hF hS hx.symm
 have ht := hF.take
 rw [hx] at hw ht
 unfold otherM at h ⊢
 rw [hw, ht]
 exact h
theorem tkM_loc {r q : List Nat} {x : Tkn} (hr : r ≠ []) (hF : Fst r q x.2.2.2) (hS : Stp r q x.2.2.2) (dr : Dg 256 r) (dq : Dg 256 q) (hv : Vd r) (h : tkM r = some x) : tkM q = some x := by
 have hle := tkM_le hr h
 have e0 := hF.get 0 (by omega)
 unfold tkM at h ⊢
 rw [e0]
 by_cases c1 : r.getD 0 0 = 40
 ·rw [if_pos c1] at h ⊢; exact h
 ·rw [if_neg c1] at h ⊢
  by_cases c2 : r.getD 0 0 = 41
  ·rw [if_pos c2] at h ⊢; exact h
  ·rw [if_neg c2] at h ⊢
   by_cases c3 : r.getD 0 0 = 39 \/ r.getD 0 0 = 96 \/ r.getD 0 0 = 44
   ·rw [if_pos c3] at h ⊢
    by_cases c4 : hasB r [44, 64] = true
    ·rw [if_pos c4] at h
     cases h
     have ht : q.take 2 = r.take 2 := hF.take
     rw [if_pos (by rw [hF.has (t := [44, 64]) (by exact Nat.le_refl 2)]; exact c4), ht]
    ·rw [if_neg c4] at h
     cases h
     have ht : q.take 1 = r.take 1 := hF.take
     have hl1 : 1 <= q.length := hF.le'
     have c5 : ¬ hasB q [44, 64] = true := by
      intro c5
      have c6 := c5
      rw [hasB_two0] at c6
      have c6 := of_decide_eq_true c6
      rcases hS with s | s | s
      ·have s : 1 = q.length := s
       omega
      ·have s : dlmB (q.getD 1 0) = true := s
       rw [c6.2.2] at s; exact absurd s (by decide)
      ·obtain ⟨s1, s2⟩ := s
       have s1 : 1 < r.length := s1
       have s2 : q.getD 1 0 = r.getD 1 0 := s2
       apply c4
       rw [hasB_two0]
       exact decide_eq_true ⟨by omega, by omega, by omega⟩
     rw [if_neg c5, ht]
   ·rw [if_neg c3] at h ⊢
    by_cases c4 : r.getD 0 0 = 34
    ·rw [if_pos c4] at h ⊢
     obtain ⟨y, hy, rfl⟩ := Option.map_eq_some_iff.1 h
     rw [textM_fst hF dr dq hy (Nat.le_refl _)]; rfl
    ·rw [if_neg c4] at h ⊢
     by_cases c5 : r.getD 0 0 = 35
     ·rw [if_pos c5] at h ⊢
      exact hashM_loc hF hS dr dq hv h
     ·rw [if_neg c5] at h ⊢
      exact otherM_loc hF hS h
end Go.Proofs.YtbkfinjajkjhaaaGreatDoor
