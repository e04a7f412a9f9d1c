import Derived.Test.YtbkfinjajkjhaaaGreatDoorLM6
import Derived.Lib.MapLaws
set_option linter.unusedVariables false
set_option linter.unusedSimpArgs false
set_option maxRecDepth 100000
namespace Go.Proofs.YtbkfinjajkjhaaaGreatDoor
theorem te_le : ∀ (f : Nat) (l : List Nat) (k : Nat), l.length <= k + f -> te l k <= l.length
 | 0, l, k, h => by rw [te, if_neg (by omega)]; exact Nat.le_refl _
 | f + 1, l, k, h => by
  rw [te]
  split
  ·split
   ·exact te_le f l (k + 2) (by omega)
   ·split
    ·omega
    ·exact te_le f l (k + 1) (by omega)
  ·exact Nat.le_refl _
theorem te_ge : ∀ (f : Nat) (l : List Nat) (k : Nat), l.length <= k + f -> k <= l.length -> k <= te l k
 | 0, l, k, h, hk => by rw [te, if_neg (by omega)]; exact hk
 | f + 1, l, k, h, hk => by
  rw [te]
  split
  ·split
   ·rcases Nat.lt_or_ge l.length (k + 2) with h2 | h2
    ·rw [te, if_neg (by omega)]; omega
    ·have := te_ge f l (k + 2) (by omega) h2; omega
   ·split
    ·omega
    ·have := te_ge f l (k + 1) (by omega) (by omega); omega
  ·exact hk
theorem te_hit : ∀ (f : Nat) (l : List Nat) (k : Nat), l.length <= k + f -> te l k < l.length -> l.getD (te l k) 0 = 34
 | 0, l, k, h, hk => by rw [te, if_neg (by omega)] at hk; omega
 | f + 1, l, k, h, hk => by
  rw [te] at hk ⊢
  split at hk
  ·rename_i h1
   rw [if_pos h1]
   split at hk
   ·rename_i h2
    rw [if_pos h2]
    exact te_hit f l (k + 2) (by omega) hk
   ·rename_i h2
    rw [if_neg h2]
    split at hk
    ·rename_i h3; rw [if_pos h3]; exact h3
    ·rename_i h3; rw [if_neg h3]; exact te_hit f l (k + 1) (by omega) hk
  ·omega
theorem te_skip : ∀ (n : Nat) (l : List Nat) (k : Nat), k + n <= l.length -> (∀ j, j < n -> l.getD (k + j) 0 ≠ 92 /\ l.getD (k + j) 0 ≠ 34) -> te l k = te l (k + n)
 | 0, l, k, _, _ => rfl
 | n + 1, l, k, h, hj => by
  have h0 := hj 0 (by omega)
  rw [Nat.add_zero] at h0
  conv => lhs; rw [te]
  rw [if_pos (by omega), if_neg h0.1, if_neg h0.2, te_skip n l (k + 1) (by omega) (fun j hjn => by
   have := hj (j + 1) (by omega)
   rw [show k + (j + 1) = k + 1 + j by omega] at this
   exact this), show k + 1 + n = k + (n + 1) by omega]
theorem hex_byte {c : Nat} (h : (dgt c : Int) < 16) : c < 128 /\ c ≠ 34 /\ c ≠ 92 /\ c ≠ 59 := by
 unfold dgt at h
 repeat' split at h
 all_goals omega
theorem numH_hex {t : List Nat} {n : Nat} (h : numH t = some n) : ∀ c ∈ t, (dgt c : Int) < 16 := by
 unfold numH at h
 split at h
 ·rename_i hh
  have hd := hh.2.1
  unfold digitsB at hd
  intro c hc
  simp only [Bool.and_eq_true] at hd
  exact of_decide_eq_true (List.all_eq_true.1 hd.1 c hc)
 ·cases h
theorem semiN_first : ∀ (r : List Nat), semiN r < r.length -> r.getD (semiN r) 0 = 59
 | [], h => by simp at h
 | c :: r, h => by
  unfold semiN at h ⊢
  by_cases hc : c = 59
  ·rw [if_pos hc]; exact hc
  ·rw [if_neg hc] at h ⊢
   have := semiN_first r (by simpa using h)
   simpa using this
theorem escM_bytes {r : List Nat} {v n : Nat} (h0 : r.getD 0 0 = 92) (h : escM r = some (v, n)) : 2 <= n /\ n <= r.length /\ (∀ j, j < n -> r.getD j 0 < 128) /\ (∀ j, 2 <= j -> j < n -> r.getD j 0 ≠ 92 /\ r.getD j 0 ≠ 34) := by
 unfold escM at h
 split at h
 ·cases h
 ·rename_i hl
  have two : r.getD 1 0 < 128 -> 2 <= 2 /\ 2 <= r.length /\ (∀ j, j < 2 -> r.getD j 0 < 128) /\ (∀ j, 2 <= j -> j < 2 -> r.getD j 0 ≠ 92 /\ r.getD j 0 ≠ 34) := fun h1 => ⟨Nat.le_refl _, by omega, fun j hj => by
   rcases (by omega : j = 0 \/ j = 1) with rfl | rfl
   ·rw [h0]; decide
   ·exact h1, fun j h2 h3 => by omega⟩
  split at h
  ·rename_i e; cases h; exact two (by omega)
  ·split at h
   ·rename_i e; cases h; exact two (by omega)
   ·split at h
    ·rename_i e; cases h; exact two (by omega)
    ·split at h
     ·rename_i e; cases h; exact two (by omega)
     ·split at h
      ·rename_i e; cases h; exact two (by omega)
      ·split at h
       ·rename_i e
        split at h
        ·rename_i hs
         have h59 := semiN_first _ hs
         rw [getD_drop] at h59
         rw [List.length_drop] at hs
         cases hn : numH ((r.drop 2).take (semiN (r.drop 2))) with
         | none => rw [hn] at h; cases h
         | some u =>
          rw [hn] at h
          cases h
          have hx := numH_hex hn
          have hk : ∀ j, 2 <= j -> j < semiN (r.drop 2) + 2 -> (dgt (r.getD j 0) : Int) < 16 := fun j h1 h2 => by
           apply hx
           rw [show r.getD j 0 = ((r.drop 2).take (semiN (r.drop 2))).getD (j - 2) 0 by rw [getD_take_lt _ (by omega), getD_drop, show 2 + (j - 2) = j by omega]]
           rw [List.getD_eq_getElem?_getD, List.getElem?_eq_getElem (by rw [List.length_take, List.length_drop]; omega)]
           exact List.getElem_mem _
          refine ⟨by omega, by omega, fun j hj => ?_, fun j h1 h2 => ?_⟩
          ·rcases (by omega : j = 0 \/ j = 1 \/ (2 <= j /\ j < semiN (r.drop 2) + 2) \/ j = 2 + semiN (r.drop 2)) with rfl | rfl | h | rfl
           ·rw [h0]; decide
           ·rw [e]; decide
           ·exact (hex_byte (hk j h.1 h.2)).1
           ·rw [h59]; decide
          ·rcases (by omega : (2 <= j /\ j < semiN (r.drop 2) + 2) \/ j = 2 + semiN (r.drop 2)) with h | rfl
           ·have := hex_byte (hk j h.1 h.2); exact ⟨this.2.2.1, this.2.1⟩
           ·rw [h59]; decide
        ·cases h
       ·cases h
theorem semiN_take : ∀ (r : List Nat) (e : Nat), semiN (r.take e) = min e (semiN r)
 | [], e => by simp [semiN]
 | c :: r, 0 => by simp [semiN]
 | c :: r, e + 1 => by
  rw [List.take_succ_cons]
  unfold semiN
  by_cases h : c = 59
  ·rw [if_pos h, if_pos h]; omega
  ·rw [if_neg h, if_neg h, semiN_take r e]; omega
theorem escM_take {r : List Nat} {e : Nat} (he : 2 <= e) (hel : e < r.length) (h34 : r.getD e 0 = 34) : escM (r.take e) = escM r := by
 have hlen : (r.take e).length = e := by rw [List.length_take]; omega
 have h1 := getD_take_lt r (show 1 < e by omega)
 unfold escM
 rw [hlen, h1, if_neg (show ¬ e <= 1 by omega), if_neg (show ¬ r.length <= 1 by omega)]
 have hd : (r.take e).drop 2 = (r.drop 2).take (e - 2) := List.drop_take
 rw [hd, semiN_take, List.length_take, List.length_drop, List.take_take, Nat.min_eq_left (show e - 2 <= r.length - 2 by omega)]
 have key : (if min (e - 2) (semiN (r.drop 2)) < e - 2 then (numH ((r.drop 2).take (min (min (e - 2) (semiN (r.drop 2))) (e - 2)))).map (fun n => (n, min (e - 2) (semiN (r.drop 2)) + 3)) else none) = (if semiN (r.drop 2) < r.length - 2 then (numH ((r.drop 2).take (semiN (r.drop 2)))).map (fun n => (n, semiN (r.drop 2) + 3)) else none) := by
  by_cases hs : semiN (r.drop 2) < e - 2
  ·rw [Nat.min_eq_right (by omega), if_pos hs, if_pos (by omega), Nat.min_eq_left (by omega)]
  ·rw [if_neg (by omega)]
   split
   ·cases hn : numH ((r.drop 2).take (semiN (r.drop 2))) with
    | none => rfl
    | some u =>
     exfalso
     have hx := numH_hex hn 34
     by_cases he2 : semiN (r.drop 2) = e - 2
     ·have := semiN_first (r.drop 2) (by rw [List.length_drop]; omega)
      rw [he2, getD_drop, show 2 + (e - 2) = e by omega, h34] at this
      cases this
     ·have : (34 : Nat) ∈ (r.drop 2).take (semiN (r.drop 2)) := by
       have h5 : ((r.drop 2).take (semiN (r.drop 2))).getD (e - 2) 0 = 34 := by rw [getD_take_lt _ (by omega), getD_drop, show 2 + (e - 2) = e by omega, h34]
       have h6 := semiN_le (r.drop 2)
       rw [List.length_drop] at h6
       rw [List.getD_eq_getElem?_getD, List.getElem?_eq_getElem (by rw [List.length_take, List.length_drop]; omega)] at h5
       rw [<- h5]
       exact List.getElem_mem _
      exact absurd (hx this) (by decide)
   ·rfl
 rw [key]
theorem enc_ok (n : Nat) (h : n < 55296 \/ (57344 <= n /\ n <= 1114111)) : Utf8.valid (n : Int) = true := by rw [<- letB_valid]; unfold letB; simp; omega
theorem enc_bad (n : Nat) (h : ¬ (n < 55296 \/ (57344 <= n /\ n <= 1114111))) : Utf8.valid (n : Int) = false := by rw [<- letB_valid]; unfold letB; simp; omega
theorem enc_list (n : Nat) : (Utf8.encode (n : Int)).data.toList = Lib.encodeRune (n : Int) := by
 unfold Lib.encodeRune Utf8.encode
 by_cases h : n < 55296 \/ (57344 <= n /\ n <= 1114111)
 ·rw [enc_ok n h, if_pos rfl, Int.toNat_natCast]
  by_cases h1 : n <= 127
  ·rw [Lib.encodeRuneZ_one (by omega) (by omega), if_pos (show n < 128 by omega)]
   simp
  ·by_cases h2 : n <= 2047
   ·rw [Lib.encodeRuneZ_two (by omega) (by omega), if_neg (show ¬ n < 128 by omega), if_pos (show n < 2048 by omega)]
    simp only [List.map_cons, List.map_nil, show ((192 : Int) + (n : Int) / 64).toNat = 192 + n / 64 by omega, show ((128 : Int) + (n : Int) % 64).toNat = 128 + n % 64 by omega]
   ·by_cases h3 : n <= 65535
    ·rw [Lib.encodeRuneZ_three (by omega), if_neg (show ¬ n < 128 by omega), if_neg (show ¬ n < 2048 by omega), if_pos (show n < 65536 by omega)]
     simp only [List.map_cons, List.map_nil, show ((224 : Int) + (n : Int) / 4096).toNat = 224 + n / 4096 by omega, show ((128 : Int) + (n : Int) / 64 % 64).toNat = 128 + n / 64 % 64 by omega, show ((128 : Int) + (n : Int) % 64).toNat = 128 + n % 64 by omega]
    ·rw [Lib.encodeRuneZ_four (by omega) (by omega), if_neg (show ¬ n < 128 by omega), if_neg (show ¬ n < 2048 by omega), if_neg (show ¬ n < 65536 by omega)]
     simp only [List.map_cons, List.map_nil, show ((240 : Int) + (n : Int) / 262144).toNat = 240 + n / 262144 by omega, show ((128 : Int) + (n : Int) / 4096 % 64).toNat = 128 + n / 4096 % 64 by omega, show ((128 : Int) + (n : Int) / 64 % 64).toNat = 128 + n / 64 % 64 by omega, show ((128 : Int) + (n : Int) % 64).toNat = 128 + n % 64 by omega]
 ·rw [enc_bad n h, Lib.encodeRuneZ_bad (by omega)]
  simp only [Bool.false_eq_true, if_false]
  decide
end Go.Proofs.YtbkfinjajkjhaaaGreatDoor
namespace Go.Proofs.YtbkfinjajkjhaaaGreatDoor
theorem te_at {l : List Nat} {k : Nat} (h : k < l.length) : te l k = if l.getD k 0 = 92 then te l (k + 2) else if l.getD k 0 = 34 then k else te l (k + 1) := by
 rw [te, if_pos h]
theorem said_step {l : List Nat} {E k : Nat} (hd : Dg 256 l) (hE : E < l.length) (hk : k < E) (hte : te l k = E) (hv : Vd (l.drop k)) :
  l.getD k 0 ≠ 34 /\
  (l.getD k 0 = 92 -> k + 2 <= E /\ escM ((l.drop k).take (E - k)) = escM (l.drop k) /\ (∀ v n, escM (l.drop k) = some (v, n) -> k + n <= E /\ 2 <= n /\ te l (k + n) = E /\ Vd (l.drop (k + n)) /\ (∀ j, k <= j -> j < k + n -> l.getD j 0 < 128))) /\
  (l.getD k 0 ≠ 92 -> runeL (l.drop k) = decN (l.drop k) /\ 1 <= (decN (l.drop k)).2 /\ k + (decN (l.drop k)).2 <= E /\ te l (k + (decN (l.drop k)).2) = E /\ Vd (l.drop (k + (decN (l.drop k)).2))) /\ decN ((l.drop k).take (E - k)) = decN (l.drop k) /\ (decN (l.drop k)).1 <= 1114111 /\ (l.getD k 0 = 92 ↔ (decN (l.drop k)).1 = 92) := by
 have ha := te_at (l := l) (k := k) (by omega)
 have h34 : l.getD E 0 = 34 := by rw [<- hte]; exact te_hit l.length l k (by omega) (by omega)
 have hne : l.drop k ≠ [] := by intro e; have := congrArg List.length e; rw [List.length_drop, List.length_nil] at this; omega
 have hdl := decN_le hne
 have hfi := hv.first hne
 have hb : Bnd (l.drop k) (E - k) := .inr (.inr (.inl (by rw [getD_drop, show k + (E - k) = E by omega, h34]; decide)))
 have hbk := hb.back hne (by rw [List.length_drop]; omega) (by omega)
 have e0 : (l.drop k).getD 0 0 = l.getD k 0 := by rw [getD_drop]; rfl
 have hdt := decN_take hne hfi hbk.1 (by rw [List.length_drop]; omega)
 have hsp := decN_split hne
 rw [e0] at hsp
 refine ⟨?_, ?_, ?_, hdt, ?_, ?_⟩
 ·intro h
  rw [h, if_neg (by decide), if_pos rfl] at ha
  omega
 ·intro h92
  rw [if_pos h92] at ha
  have h2 : k + 2 <= E := by
   rcases Nat.lt_or_ge l.length (k + 2) with h | h
   ·rw [te, if_neg (by omega)] at ha; omega
   ·have := te_ge l.length l (k + 2) (by omega) h; omega
  have het := escM_take (r := l.drop k) (e := E - k) (by omega) (by rw [List.length_drop]; omega) (by rw [getD_drop, show k + (E - k) = E by omega, h34])
  refine ⟨h2, het, fun v n hn => ?_⟩
  obtain ⟨g1, g2, g3, g4⟩ := escM_bytes (by rw [e0]; exact h92) hn
  rw [List.length_drop] at g2
  have hte2 : te l (k + n) = E := by
   have := te_skip (n - 2) l (k + 2) (by omega) (fun j hj => by
    have := g4 (2 + j) (by omega) (by omega)
    rw [getD_drop, show k + (2 + j) = k + 2 + j by omega] at this
    exact this)
   rw [show k + 2 + (n - 2) = k + n by omega] at this
   rw [<- this, <- ha, hte]
  have hge := te_ge l.length l (k + n) (by omega) (by omega)
  refine ⟨by omega, g1, hte2, ?_, fun j h1 h2 => ?_⟩
  ·have := hv.drop n (by rw [List.length_drop]; omega) (.inr (.inr (.inr (g3 (n - 1) (by omega)))))
   rw [List.drop_drop] at this
   exact this
  ·have := g3 (j - k) (by omega)
   rw [getD_drop, show k + (j - k) = j by omega] at this
   exact this
 ·intro h92
  have hn34 : l.getD k 0 ≠ 34 := fun h => by rw [h, if_neg (by decide), if_pos rfl] at ha; omega
  refine ⟨?_, hdl.1, by omega, ?_, ?_⟩
  ·rw [runeL_dec (hd.drop k), if_neg hfi]
  ·rw [<- hte]
   refine (te_skip _ l k (by omega) (fun j hj => ?_)).symm
   rcases hsp with ⟨h1, h2⟩ | ⟨h1, h2, h3⟩
   ·obtain rfl : j = 0 := by omega
    exact ⟨h92, hn34⟩
   ·have := h3 j hj
    rw [getD_drop] at this
    omega
  ·have := hv.tail hne
   rw [List.drop_drop] at this
   exact this
 ·rcases Nat.lt_or_ge (l.getD k 0) 128 with h | h
  ·rw [decN_low (by rw [e0]; exact h), e0]; omega
  ·exact (decN_high hne (by rw [e0]; exact h)).2.1
 ·rcases Nat.lt_or_ge (l.getD k 0) 128 with h | h
  ·rw [decN_low (by rw [e0]; exact h), e0]
  ·have := (decN_high hne (by rw [e0]; exact h)).1; omega
end Go.Proofs.YtbkfinjajkjhaaaGreatDoor
