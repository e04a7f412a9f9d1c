import Derived.Test.YtbkfinjajkjhaaaGreatDoorLX17
import Derived.Lib.MapLaws
set_option linter.unusedVariables false
set_option linter.unusedSimpArgs false
set_option maxRecDepth 100000
namespace Go.Proofs.YtbkfinjajkjhaaaGreatDoor
open Go.RowKit
theorem index_semi : ∀ l : List UInt8, Lib.index l [59] = if semiN (l.map UInt8.toNat) < l.length then ((semiN (l.map UInt8.toNat) : Nat) : Int) else -1
 | [] => by simp [Lib.index, semiN]
 | c :: l => by
  have ih := index_semi l
  have hle := semiN_le (l.map UInt8.toNat)
  rw [List.length_map] at hle
  unfold Lib.index
  rw [List.map_cons]
  unfold semiN
  by_cases h : c.toNat = 59
  ·have hc : c = 59 := UInt8.toNat_inj.1 h
   rw [if_pos h, hc, if_pos (by simp)]
   simp
  ·have hc : ¬ c = 59 := fun e => h (by rw [e]; rfl)
   have hp : List.isPrefixOf [59] (c :: l) = false := by
    simp [List.isPrefixOf]; exact fun e => hc e.symm
   rw [if_neg h, hp, if_neg (by simp), ih, List.length_cons]
   by_cases hlt : semiN (l.map UInt8.toNat) < l.length
   ·rw [if_pos hlt, if_neg (show ¬ (((semiN (l.map UInt8.toNat) : Nat) : Int) == -1) = true by simp), if_pos (by omega)]; omega
   ·rw [if_neg hlt, if_pos (by decide), if_neg (by omega)]
theorem cut_semi (s : ByteArray) : (Lib.cut s.data.toList [59]).2.2 = decide (semiN (bs s) < s.size) /\ bs ⟨(Lib.cut s.data.toList [59]).1.toArray⟩ = (bs s).take (semiN (bs s)) := by
 have hi := index_semi s.data.toList
 have hb : s.data.toList.map UInt8.toNat = bs s := by unfold bs; first | rfl | simp
 have hz : s.data.toList.length = s.size := rfl
 have hle := semiN_le (bs s)
 rw [bs_length] at hle
 rw [hb, hz] at hi
 unfold Lib.cut
 rw [hi]
 by_cases h : semiN (bs s) < s.size
 ·rw [if_pos h, if_pos (by omega)]
  refine ⟨(decide_eq_true h).symm, ?_⟩
  show bs ⟨(List.take ((semiN (bs s) : Nat) : Int).toNat s.data.toList).toArray⟩ = _
  rw [Int.toNat_natCast]
  unfold bs
  simp [List.map_take]
 ·rw [if_neg h, if_neg (by omega)]
  refine ⟨(decide_eq_false h).symm, ?_⟩
  show bs ⟨s.data.toList.toArray⟩ = _
  rw [List.take_of_length_le (by rw [bs_length]; omega)]
theorem cut_any (s : ByteArray) (w : World) (hs : s.size <= 1000000) (hT : LTabs w) : Calls Tryz.prog 125 #[.string s, .string ⟨#[59]⟩] w fun e w' => ∃ t u : ByteArray, e = .returned (.tuple #[.string t, .string u, .bool (decide (semiN (bs s) < s.size))]) /\ bs t = (bs s).take (semiN (bs s)) /\ Below w.heap.size w w' := by
 obtain ⟨m, hm⟩ := hT.mx
 refine (Any.strings_Cut Tryz.lays145 s ⟨#[59]⟩ m w (by omega) hm).mono ?_
 rintro e w' ⟨rfl, k, rfl⟩
 obtain ⟨h1, h2⟩ := cut_semi s
 exact ⟨_, _, by rw [<- h1], h2, Bd w k⟩
set_option maxHeartbeats 8000000 in
theorem escaped_any (s : ByteArray) (w : World) (hs : s.size <= 1000000) (h2 : 1 < s.size) (hT : LTabs w) : Calls Tryz.prog 98 #[.string s] w fun e w' => e = .returned (.tuple #[.int .i32 ((escV (bs s)).1 : Nat), .int .i64 ((escV (bs s)).2 : Nat)]) /\ Below w.heap.size w w' := by
 have hl := bs_length s
 obtain ⟨R, hR⟩ : ∃ R, R = escV (bs s) := ⟨_, rfl⟩
 rw [<- hR]
 have hb := bs_get s 1 h2
 have HR : Hid (R = ((if (s[1]'h2).toNat = 34 then some (34, 2) else if (s[1]'h2).toNat = 92 then some (92, 2) else if (s[1]'h2).toNat = 110 then some (10, 2) else if (s[1]'h2).toNat = 116 then some (9, 2) else if (s[1]'h2).toNat = 114 then some (13, 2)
   else if (s[1]'h2).toNat = 120 then (if semiN ((bs s).drop 2) < ((bs s).drop 2).length then (numH (((bs s).drop 2).take (semiN ((bs s).drop 2)))).map (fun n => (n, semiN ((bs s).drop 2) + 3)) else none)
   else none) : Option (Nat × Nat)).getD (0, 0)) := by
  unfold Hid
  rw [hR]; unfold escV escM
  rw [if_neg (by rw [hl]; omega), hb]
 have q1 : (1 : Int) < (s.size : Int) := by omega
 have q2 : (2 : Int) <= (s.size : Int) := by omega
 have HL := hid hl
 have HT := hid hT
 clear hl hR hb hT
 by_cases n1 : (s[1]'h2).toNat = 34
 ·have t1 : (((s[1]'h2).toNat : Int) == 34) = true := by simp; omega
  have e0 : Hid (R = (34, 2)) := by unfold Hid; rw [HR.out, if_pos n1]; rfl
  have v0 : Hid ((s[1]'h2).toNat = 34) := n1
  clear HR n1
  go_enter Tryz.func98, Tryz.ntmps98
  go_wp2_with fail
  go_ret2
  exact ⟨by rw [e0.out]; show Ending.returned (.tuple #[.int .i32 (wrap32 ((s[1]'h2).toNat : Int)), .int .i64 2]) = _; rw [v0.out, show wrap32 ((34 : Nat) : Int) = 34 by unfold wrap32; omega]; rfl, Below.refl _ _⟩
 have t1 : (((s[1]'h2).toNat : Int) == 34) = false := by simp; omega
 rw [if_neg n1] at HR
 clear n1
 by_cases n1 : (s[1]'h2).toNat = 92
 ·have t2 : (((s[1]'h2).toNat : Int) == 92) = true := by simp; omega
  have e0 : Hid (R = (92, 2)) := by unfold Hid; rw [HR.out, if_pos n1]; rfl
  have v0 : Hid ((s[1]'h2).toNat = 92) := n1
  clear HR n1
  go_enter Tryz.func98, Tryz.ntmps98
  go_wp2_with fail
  go_ret2
  exact ⟨by rw [e0.out]; show Ending.returned (.tuple #[.int .i32 (wrap32 ((s[1]'h2).toNat : Int)), .int .i64 2]) = _; rw [v0.out, show wrap32 ((92 : Nat) : Int) = 92 by unfold wrap32; omega]; rfl, Below.refl _ _⟩
 have t2 : (((s[1]'h2).toNat : Int) == 92) = false := by simp; omega
 rw [if_neg n1] at HR
 clear n1
 by_cases n1 : (s[1]'h2).toNat = 110
 ·have t3 : (((s[1]'h2).toNat : Int) == 110) = true := by simp; omega
  have e0 : Hid (R = (10, 2)) := by unfold Hid; rw [HR.out, if_pos n1]; rfl
  have v0 : Hid ((s[1]'h2).toNat = 110) := n1
  clear HR n1
  go_enter Tryz.func98, Tryz.ntmps98
  go_wp2_with fail
  go_ret2
  exact ⟨by rw [e0.out]; rfl, Below.refl _ _⟩
 have t3 : (((s[1]'h2).toNat : Int) == 110) = false := by simp; omega
 rw [if_neg n1] at HR
 clear n1
 by_cases n1 : (s[1]'h2).toNat = 116
 ·have t4 : (((s[1]'h2).toNat : Int) == 116) = true := by simp; omega
  have e0 : Hid (R = (9, 2)) := by unfold Hid; rw [HR.out, if_pos n1]; rfl
  have v0 : Hid ((s[1]'h2).toNat = 116) := n1
  clear HR n1
  go_enter Tryz.func98, Tryz.ntmps98
  go_wp2_with fail
  go_ret2
  exact ⟨by rw [e0.out]; rfl, Below.refl _ _⟩
 have t4 : (((s[1]'h2).toNat : Int) == 116) = false := by simp; omega
 rw [if_neg n1] at HR
 clear n1
 by_cases n1 : (s[1]'h2).toNat = 114
 ·have t5 : (((s[1]'h2).toNat : Int) == 114) = true := by simp; omega
  have e0 : Hid (R = (13, 2)) := by unfold Hid; rw [HR.out, if_pos n1]; rfl
  have v0 : Hid ((s[1]'h2).toNat = 114) := n1
  clear HR n1
  go_enter Tryz.func98, Tryz.ntmps98
  go_wp2_with fail
  go_ret2
  exact ⟨by rw [e0.out]; rfl, Below.refl _ _⟩
 have t5 : (((s[1]'h2).toNat : Int) == 114) = false := by simp; omega
 rw [if_neg n1] at HR
 clear n1
 by_cases n1 : (s[1]'h2).toNat = 120
 ·have t6 : (((s[1]'h2).toNat : Int) == 120) = true := by simp; omega
  rw [if_pos n1] at HR
  have hsz : (s.extract 2 s.size).size = s.size - 2 := by rw [ByteArray.size_extract]; omega
  have CC := hid (cut_any (s.extract 2 s.size) w (by omega) HT.out)
  rw [bs_extract, hsz] at CC
  rw [List.length_drop, HL.out] at HR
  have CH := hid (fun (t : ByteArray) W (h : Below w.heap.size w W) (ht : t.size <= 1000000) => hexLetter_any t W ht (HT.out.below h))
  obtain ⟨D, hD⟩ : ∃ D, D = (bs s).drop 2 := ⟨_, rfl⟩
  have hDl : D.length = s.size - 2 := by rw [hD, List.length_drop, HL.out]
  rw [<- hD] at HR CC
  obtain ⟨k, hk⟩ : ∃ k, k = semiN D := ⟨_, rfl⟩
  have hkl := semiN_le D
  rw [<- hk] at HR CC hkl
  have HKL : Hid (∀ t : ByteArray, bs t = D.take k -> t.size = k) := fun t ht => by
   have := bs_length t
   rw [ht, List.length_take] at this
   omega
  have hk1 : Hid (k <= 1000000) := by unfold Hid; omega
  clear n1 hD hk hDl hkl hsz
  obtain ⟨b, hb⟩ : ∃ b, b = decide (k < s.size - 2) := ⟨_, rfl⟩
  rw [<- hb] at CC
  obtain ⟨N, hN⟩ : ∃ N, N = numH (D.take k) := ⟨_, rfl⟩
  rw [<- hN] at HR
  have HN := hid hN
  have HR2 : Hid (R = ((if b = true then N.map (fun n => (n, k + 3)) else none) : Option (Nat × Nat)).getD (0, 0)) := by
   unfold Hid; rw [HR.out, hb]; simp only [decide_eq_true_eq]
  clear HR hb hN
  go_enter Tryz.func98, Tryz.ntmps98
  go_wp2_with fail
  go_at_call 125
  with_reducible refine CC.out.mono ?_
  rintro e wa ⟨t, u, rfl, ht, ba⟩
  have hts := HKL.out t ht
  have CH2 := hid (CH.out t wa ba (by rw [hts]; exact hk1.out))
  rw [ht, <- HN.out] at CH2
  have HB := hid ba
  have HTS := hid hts
  clear ba ht hts CH
  go_wp2_with fail
  go_at_call 126
  with_reducible refine CH2.out.mono ?_
  rintro e wb ⟨rfl, bb⟩
  have HB2 := hid (HB.out.trans (bb.mono HB.out.size))
  have hts := HTS.out
  clear bb CH2
  unfold hexV
  cases N with
  | none =>
   have HR3 : Hid (R = (0, 0)) := by unfold Hid; rw [HR2.out]; split <;> rfl
   go_wp2_with fail
   go_ret2
   exact ⟨by rw [HR3.out]; rfl, HB2.out⟩
  | some v =>
   cases b
   ·have HR3 : Hid (R = (0, 0)) := HR2.out
    go_wp2_with fail
    go_ret2
    exact ⟨by rw [HR3.out]; rfl, HB2.out⟩
   ·have HR3 : Hid (R = (v, k + 3)) := HR2.out
    go_wp2_with fail
    go_ret2
    exact ⟨by rw [HR3.out]; show Ending.returned (.tuple #[.int .i32 ((v : Nat) : Int), .int .i64 (wrap64 (wrap64 (2 + (k : Int)) + 1))]) = _; rw [show wrap64 (wrap64 (2 + (k : Int)) + 1) = ((k + 3 : Nat) : Int) by have := hk1.out; unfold wrap64; omega], HB2.out⟩
 have t6 : (((s[1]'h2).toNat : Int) == 120) = false := by simp; omega
 rw [if_neg n1] at HR
 clear n1
 have HR3 : Hid (R = (0, 0)) := HR.out
 clear HR
 go_enter Tryz.func98, Tryz.ntmps98
 go_wp2_with fail
 go_ret2
 exact ⟨by rw [HR3.out]; rfl, Below.refl _ _⟩
end Go.Proofs.YtbkfinjajkjhaaaGreatDoor
namespace Go.Proofs.YtbkfinjajkjhaaaGreatDoor
theorem te_le : ∀ (f : Nat) (l : List Nat) (k : Nat), l.length <= k + f -> te l k <= l.length
 | 0, l, k, h => by rw [te, if_neg (by omega)]; exact Nat.le_refl _
 | f + 1, l, k, h => by
  rw [te]
  split
  ·split
   ·exact te_le f l (k + 2) (by omega)
   ·split
    ·omega
    ·exact te_le f l (k + 1) (by omega)
  ·exact Nat.le_refl _
theorem te_ge : ∀ (f : Nat) (l : List Nat) (k : Nat), l.length <= k + f -> k <= l.length -> k <= te l k
 | 0, l, k, h, hk => by rw [te, if_neg (by omega)]; exact hk
 | f + 1, l, k, h, hk => by
  rw [te]
  split
  ·split
   ·rcases Nat.lt_or_ge l.length (k + 2) with h2 | h2
    ·rw [te, if_neg (by omega)]; omega
    ·have := te_ge f l (k + 2) (by omega) h2; omega
   ·split
    ·omega
    ·have := te_ge f l (k + 1) (by omega) (by omega); omega
  ·exact hk
theorem te_hit : ∀ (f : Nat) (l : List Nat) (k : Nat), l.length <= k + f -> te l k < l.length -> l.getD (te l k) 0 = 34
 | 0, l, k, h, hk => by rw [te, if_neg (by omega)] at hk; omega
 | f + 1, l, k, h, hk => by
  rw [te] at hk ⊢
  split at hk
  ·rename_i h1
   rw [if_pos h1]
   split at hk
   ·rename_i h2
    rw [if_pos h2]
    exact te_hit f l (k + 2) (by omega) hk
   ·rename_i h2
    rw [if_neg h2]
    split at hk
    ·rename_i h3; rw [if_pos h3]; exact h3
    ·rename_i h3; rw [if_neg h3]; exact te_hit f l (k + 1) (by omega) hk
  ·omega
theorem te_skip : ∀ (n : Nat) (l : List Nat) (k : Nat), k + n <= l.length -> (∀ j, j < n -> l.getD (k + j) 0 ≠ 92 /\ l.getD (k + j) 0 ≠ 34) -> te l k = te l (k + n)
 | 0, l, k, _, _ => rfl
 | n + 1, l, k, h, hj => by
  have h0 := hj 0 (by omega)
  rw [Nat.add_zero] at h0
  conv => lhs; rw [te]
  rw [if_pos (by omega), if_neg h0.1, if_neg h0.2, te_skip n l (k + 1) (by omega) (fun j hjn => by
   have := hj (j + 1) (by omega)
   rw [show k + (j + 1) = k + 1 + j by omega] at this
   exact this), show k + 1 + n = k + (n + 1) by omega]
theorem hex_byte {c : Nat} (h : (dgt c : Int) < 16) : c < 128 /\ c ≠ 34 /\ c ≠ 92 /\ c ≠ 59 := by
 unfold dgt at h
 repeat' split at h
 all_goals omega
theorem numH_hex {t : List Nat} {n : Nat} (h : numH t = some n) : ∀ c ∈ t, (dgt c : Int) < 16 := by
 unfold numH at h
 split at h
 ·rename_i hh
  have hd := hh.2.1
  unfold digitsB at hd
  intro c hc
  simp only [Bool.and_eq_true] at hd
  exact of_decide_eq_true (List.all_eq_true.1 hd.1 c hc)
 ·cases h
theorem semiN_first : ∀ (r : List Nat), semiN r < r.length -> r.getD (semiN r) 0 = 59
 | [], h => by simp at h
 | c :: r, h => by
  unfold semiN at h ⊢
  by_cases hc : c = 59
  ·rw [if_pos hc]; exact hc
  ·rw [if_neg hc] at h ⊢
   have := semiN_first r (by simpa using h)
   simpa using this
theorem escM_bytes {r : List Nat} {v n : Nat} (h0 : r.getD 0 0 = 92) (h : escM r = some (v, n)) : 2 <= n /\ n <= r.length /\ (∀ j, j < n -> r.getD j 0 < 128) /\ (∀ j, 2 <= j -> j < n -> r.getD j 0 ≠ 92 /\ r.getD j 0 ≠ 34) := by
 unfold escM at h
 split at h
 ·cases h
 ·rename_i hl
  have two : r.getD 1 0 < 128 -> 2 <= 2 /\ 2 <= r.length /\ (∀ j, j < 2 -> r.getD j 0 < 128) /\ (∀ j, 2 <= j -> j < 2 -> r.getD j 0 ≠ 92 /\ r.getD j 0 ≠ 34) := fun h1 => ⟨Nat.le_refl _, by omega, fun j hj => by
   rcases (by omega : j = 0 \/ j = 1) with rfl | rfl
   ·rw [h0]; decide
   ·exact h1, fun j h2 h3 => by omega⟩
  split at h
  ·rename_i e; cases h; exact two (by omega)
  ·split at h
   ·rename_i e; cases h; exact two (by omega)
   ·split at h
    ·rename_i e; cases h; exact two (by omega)
    ·split at h
     ·rename_i e; cases h; exact two (by omega)
     ·split at h
      ·rename_i e; cases h; exact two (by omega)
      ·split at h
       ·rename_i e
        split at h
        ·rename_i hs
         have h59 := semiN_first _ hs
         rw [getD_drop] at h59
         rw [List.length_drop] at hs
         cases hn : numH ((r.drop 2).take (semiN (r.drop 2))) with
         | none => rw [hn] at h; cases h
         | some u =>
          rw [hn] at h
          cases h
          have hx := numH_hex hn
          have hk : ∀ j, 2 <= j -> j < semiN (r.drop 2) + 2 -> (dgt (r.getD j 0) : Int) < 16 := fun j h1 h2 => by
           apply hx
           rw [show r.getD j 0 = ((r.drop 2).take (semiN (r.drop 2))).getD (j - 2) 0 by rw [getD_take_lt _ (by omega), getD_drop, show 2 + (j - 2) = j by omega]]
           rw [List.getD_eq_getElem?_getD, List.getElem?_eq_getElem (by rw [List.length_take, List.length_drop]; omega)]
           exact List.getElem_mem _
          refine ⟨by omega, by omega, fun j hj => ?_, fun j h1 h2 => ?_⟩
          ·rcases (by omega : j = 0 \/ j = 1 \/ (2 <= j /\ j < semiN (r.drop 2) + 2) \/ j = 2 + semiN (r.drop 2)) with rfl | rfl | h | rfl
           ·rw [h0]; decide
           ·rw [e]; decide
           ·exact (hex_byte (hk j h.1 h.2)).1
           ·rw [h59]; decide
          ·rcases (by omega : (2 <= j /\ j < semiN (r.drop 2) + 2) \/ j = 2 + semiN (r.drop 2)) with h | rfl
           ·have := hex_byte (hk j h.1 h.2); exact ⟨this.2.2.1, this.2.1⟩
           ·rw [h59]; decide
        ·cases h
       ·cases h
theorem semiN_take : ∀ (r : List Nat) (e : Nat), semiN (r.take e) = min e (semiN r)
 | [], e => by simp [semiN]
 | c :: r, 0 => by simp [semiN]
 | c :: r, e + 1 => by
  rw [List.take_succ_cons]
  unfold semiN
  by_cases h : c = 59
  ·rw [if_pos h, if_pos h]; omega
  ·rw [if_neg h, if_neg h, semiN_take r e]; omega
theorem escM_take {r : List Nat} {e : Nat} (he : 2 <= e) (hel : e < r.length) (h34 : r.getD e 0 = 34) : escM (r.take e) = escM r := by
 have hlen : (r.take e).length = e := by rw [List.length_take]; omega
 have h1 := getD_take_lt r (show 1 < e by omega)
 unfold escM
 rw [hlen, h1, if_neg (show ¬ e <= 1 by omega), if_neg (show ¬ r.length <= 1 by omega)]
 have hd : (r.take e).drop 2 = (r.drop 2).take (e - 2) := List.drop_take
 rw [hd, semiN_take, List.length_take, List.length_drop, List.take_take, Nat.min_eq_left (show e - 2 <= r.length - 2 by omega)]
 have key : (if min (e - 2) (semiN (r.drop 2)) < e - 2 then (numH ((r.drop 2).take (min (min (e - 2) (semiN (r.drop 2))) (e - 2)))).map (fun n => (n, min (e - 2) (semiN (r.drop 2)) + 3)) else none) = (if semiN (r.drop 2) < r.length - 2 then (numH ((r.drop 2).take (semiN (r.drop 2)))).map (fun n => (n, semiN (r.drop 2) + 3)) else none) := by
  by_cases hs : semiN (r.drop 2) < e - 2
  ·rw [Nat.min_eq_right (by omega), if_pos hs, if_pos (by omega), Nat.min_eq_left (by omega)]
  ·rw [if_neg (by omega)]
   split
   ·cases hn : numH ((r.drop 2).take (semiN (r.drop 2))) with
    | none => rfl
    | some u =>
     exfalso
     have hx := numH_hex hn 34
     by_cases he2 : semiN (r.drop 2) = e - 2
     ·have := semiN_first (r.drop 2) (by rw [List.length_drop]; omega)
      rw [he2, getD_drop, show 2 + (e - 2) = e by omega, h34] at this
      cases this
     ·have : (34 : Nat) ∈ (r.drop 2).take (semiN (r.drop 2)) := by
       have h5 : ((r.drop 2).take (semiN (r.drop 2))).getD (e - 2) 0 = 34 := by rw [getD_take_lt _ (by omega), getD_drop, show 2 + (e - 2) = e by omega, h34]
       have h6 := semiN_le (r.drop 2)
       rw [List.length_drop] at h6
       rw [List.getD_eq_getElem?_getD, List.getElem?_eq_getElem (by rw [List.length_take, List.length_drop]; omega)] at h5
       rw [<- h5]
       exact List.getElem_mem _
      exact absurd (hx this) (by decide)
   ·rfl
 rw [key]
theorem enc_ok (n : Nat) (h : n < 55296 \/ (57344 <= n /\ n <= 1114111)) : Utf8.valid (n : Int) = true := by rw [<- letB_valid]; unfold letB; simp; omega
theorem enc_bad (n : Nat) (h : ¬ (n < 55296 \/ (57344 <= n /\ n <= 1114111))) : Utf8.valid (n : Int) = false := by rw [<- letB_valid]; unfold letB; simp; omega
theorem enc_list (n : Nat) : (Utf8.encode (n : Int)).data.toList = Lib.encodeRune (n : Int) := by
 unfold Lib.encodeRune Utf8.encode
 by_cases h : n < 55296 \/ (57344 <= n /\ n <= 1114111)
 ·rw [enc_ok n h, if_pos rfl, Int.toNat_natCast]
  by_cases h1 : n <= 127
  ·rw [Lib.encodeRuneZ_one (by omega) (by omega), if_pos (show n < 128 by omega)]
   simp
  ·by_cases h2 : n <= 2047
   ·rw [Lib.encodeRuneZ_two (by omega) (by omega), if_neg (show ¬ n < 128 by omega), if_pos (show n < 2048 by omega)]
    simp only [List.map_cons, List.map_nil, show ((192 : Int) + (n : Int) / 64).toNat = 192 + n / 64 by omega, show ((128 : Int) + (n : Int) % 64).toNat = 128 + n % 64 by omega]
   ·by_cases h3 : n <= 65535
    ·rw [Lib.encodeRuneZ_three (by omega), if_neg (show ¬ n < 128 by omega), if_neg (show ¬ n < 2048 by omega), if_pos (show n < 65536 by omega)]
     simp only [List.map_cons, List.map_nil, show ((224 : Int) + (n : Int) / 4096).toNat = 224 + n / 4096 by omega, show ((128 : Int) + (n : Int) / 64 % 64).toNat = 128 + n / 64 % 64 by omega, show ((128 : Int) + (n : Int) % 64).toNat = 128 + n % 64 by omega]
    ·rw [Lib.encodeRuneZ_four (by omega) (by omega), if_neg (show ¬ n < 128 by omega), if_neg (show ¬ n < 2048 by omega), if_neg (show ¬ n < 65536 by omega)]
     simp only [List.map_cons, List.map_nil, show ((240 : Int) + (n : Int) / 262144).toNat = 240 + n / 262144 by omega, show ((128 : Int) + (n : Int) / 4096 % 64).toNat = 128 + n / 4096 % 64 by omega, show ((128 : Int) + (n : Int) / 64 % 64).toNat = 128 + n / 64 % 64 by omega, show ((128 : Int) + (n : Int) % 64).toNat = 128 + n % 64 by omega]
 ·rw [enc_bad n h, Lib.encodeRuneZ_bad (by omega)]
  simp only [Bool.false_eq_true, if_false]
  decide
end Go.Proofs.YtbkfinjajkjhaaaGreatDoor
