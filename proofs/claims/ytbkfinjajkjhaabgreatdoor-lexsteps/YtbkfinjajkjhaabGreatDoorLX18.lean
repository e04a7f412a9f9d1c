import Derived.Test.YtbkfinjajkjhaabGreatDoorLX17
set_option linter.unusedVariables false
set_option linter.unusedSimpArgs false
set_option maxRecDepth 100000
namespace Go.Proofs.YtbkfinjajkjhaabGreatDoor
open Go.RowKit
theorem index_semi : ∀ l : List UInt8, Lib.index l [59] = if semiN (l.map UInt8.toNat) < l.length then ((semiN (l.map UInt8.toNat) : Nat) : Int) else -1
 | [] => by simp [Lib.index, semiN]
 | c :: l => by
  have ih := index_semi l
  have hle := semiN_le (l.map UInt8.toNat)
  rw [List.length_map] at hle
  unfold Lib.index
  rw [List.map_cons]
  unfold semiN
  by_cases h : c.toNat = 59
  ·have hc : c = 59 := UInt8.toNat_inj.1 h
   rw [if_pos h, hc, if_pos (by simp)]
   simp
  ·have hc : ¬ c = 59 := fun e => h (by rw [e]; rfl)
   have hp : List.isPrefixOf [59] (c :: l) = false := by
    simp [List.isPrefixOf]; exact fun e => hc e.symm
   rw [if_neg h, hp, if_neg (by simp), ih, List.length_cons]
   by_cases hlt : semiN (l.map UInt8.toNat) < l.length
   ·rw [if_pos hlt, if_neg (show ¬ (((semiN (l.map UInt8.toNat) : Nat) : Int) == -1) = true by simp), if_pos (by omega)]; omega
   ·rw [if_neg hlt, if_pos (by decide), if_neg (by omega)]
theorem cut_semi (s : ByteArray) : (Lib.cut s.data.toList [59]).2.2 = decide (semiN (bs s) < s.size) /\ bs ⟨(Lib.cut s.data.toList [59]).1.toArray⟩ = (bs s).take (semiN (bs s)) := by
 have hi := index_semi s.data.toList
 have hb : s.data.toList.map UInt8.toNat = bs s := by unfold bs; first | rfl | simp
 have hz : s.data.toList.length = s.size := rfl
 have hle := semiN_le (bs s)
 rw [bs_length] at hle
 rw [hb, hz] at hi
 unfold Lib.cut
 rw [hi]
 by_cases h : semiN (bs s) < s.size
 ·rw [if_pos h, if_pos (by omega)]
  refine ⟨(decide_eq_true h).symm, ?_⟩
  show bs ⟨(List.take ((semiN (bs s) : Nat) : Int).toNat s.data.toList).toArray⟩ = _
  rw [Int.toNat_natCast]
  unfold bs
  simp [List.map_take]
 ·rw [if_neg h, if_neg (by omega)]
  refine ⟨(decide_eq_false h).symm, ?_⟩
  show bs ⟨s.data.toList.toArray⟩ = _
  rw [List.take_of_length_le (by rw [bs_length]; omega)]
theorem cut_any (s : ByteArray) (w : World) (hs : s.size <= 1000000) (hT : LTabs w) : Calls Tryz.prog 62 #[.string s, .string ⟨#[59]⟩] w fun e w' => ∃ t u : ByteArray, e = .returned (.tuple #[.string t, .string u, .bool (decide (semiN (bs s) < s.size))]) /\ bs t = (bs s).take (semiN (bs s)) /\ Below w.heap.size w w' := by
 obtain ⟨m, hm⟩ := hT.mx
 refine (Any.strings_Cut Tryz.lays145 s ⟨#[59]⟩ m w (by omega) hm).mono ?_
 rintro e w' ⟨rfl, k, rfl⟩
 obtain ⟨h1, h2⟩ := cut_semi s
 exact ⟨_, _, by rw [<- h1], h2, Bd w k⟩
set_option maxHeartbeats 8000000 in
theorem escaped_any (s : ByteArray) (w : World) (hs : s.size <= 1000000) (h2 : 1 < s.size) (hT : LTabs w) : Calls Tryz.prog 39 #[.string s] w fun e w' => e = .returned (.tuple #[.int .i32 ((escV (bs s)).1 : Nat), .int .i64 ((escV (bs s)).2 : Nat)]) /\ Below w.heap.size w w' := by
 have hl := bs_length s
 obtain ⟨R, hR⟩ : ∃ R, R = escV (bs s) := ⟨_, rfl⟩
 rw [<- hR]
 have hb := bs_get s 1 h2
 have HR : Hid (R = ((if (s[1]'h2).toNat = 34 then some (34, 2) else if (s[1]'h2).toNat = 92 then some (92, 2) else if (s[1]'h2).toNat = 110 then some (10, 2) else if (s[1]'h2).toNat = 116 then some (9, 2) else if (s[1]'h2).toNat = 114 then some (13, 2)
   else if (s[1]'h2).toNat = 120 then (if semiN ((bs s).drop 2) < ((bs s).drop 2).length then (numH (((bs s).drop 2).take (semiN ((bs s).drop 2)))).map (fun n => (n, semiN ((bs s).drop 2) + 3)) else none)
   else none) : Option (Nat × Nat)).getD (0, 0)) := by
  unfold Hid
  rw [hR]; unfold escV escM
  rw [if_neg (by rw [hl]; omega), hb]
 have q1 : (1 : Int) < (s.size : Int) := by omega
 have q2 : (2 : Int) <= (s.size : Int) := by omega
 have HL := hid hl
 have HT := hid hT
 clear hl hR hb hT
 by_cases n1 : (s[1]'h2).toNat = 34
 ·have t1 : (((s[1]'h2).toNat : Int) == 34) = true := by simp; omega
  have e0 : Hid (R = (34, 2)) := by unfold Hid; rw [HR.out, if_pos n1]; rfl
  have v0 : Hid ((s[1]'h2).toNat = 34) := n1
  clear HR n1
  go_enter Tryz.func39, Tryz.ntmps39
  go_wp2_with fail
  go_ret2
  exact ⟨by rw [e0.out]; show Ending.returned (.tuple #[.int .i32 (wrap32 ((s[1]'h2).toNat : Int)), .int .i64 2]) = _; rw [v0.out, show wrap32 ((34 : Nat) : Int) = 34 by unfold wrap32; omega]; rfl, Below.refl _ _⟩
 have t1 : (((s[1]'h2).toNat : Int) == 34) = false := by simp; omega
 rw [if_neg n1] at HR
 clear n1
 by_cases n1 : (s[1]'h2).toNat = 92
 ·have t2 : (((s[1]'h2).toNat : Int) == 92) = true := by simp; omega
  have e0 : Hid (R = (92, 2)) := by unfold Hid; rw [HR.out, if_pos n1]; rfl
  have v0 : Hid ((s[1]'h2).toNat = 92) := n1
  clear HR n1
  go_enter Tryz.func39, Tryz.ntmps39
  go_wp2_with fail
  go_ret2
  exact ⟨by rw [e0.out]; show Ending.returned (.tuple #[.int .i32 (wrap32 ((s[1]'h2).toNat : Int)), .int .i64 2]) = _; rw [v0.out, show wrap32 ((92 : Nat) : Int) = 92 by unfold wrap32; omega]; rfl, Below.refl _ _⟩
 have t2 : (((s[1]'h2).toNat : Int) == 92) = false := by simp; omega
 rw [if_neg n1] at HR
 clear n1
 by_cases n1 : (s[1]'h2).toNat = 110
 ·have t3 : (((s[1]'h2).toNat : Int) == 110) = true := by simp; omega
  have e0 : Hid (R = (10, 2)) := by unfold Hid; rw [HR.out, if_pos n1]; rfl
  have v0 : Hid ((s[1]'h2).toNat = 110) := n1
  clear HR n1
  go_enter Tryz.func39, Tryz.ntmps39
  go_wp2_with fail
  go_ret2
  exact ⟨by rw [e0.out]; rfl, Below.refl _ _⟩
 have t3 : (((s[1]'h2).toNat : Int) == 110) = false := by simp; omega
 rw [if_neg n1] at HR
 clear n1
 by_cases n1 : (s[1]'h2).toNat = 116
 ·have t4 : (((s[1]'h2).toNat : Int) == 116) = true := by simp; omega
  have e0 : Hid (R = (9, 2)) := by unfold Hid; rw [HR.out, if_pos n1]; rfl
  have v0 : Hid ((s[1]'h2).toNat = 116) := n1
  clear HR n1
  go_enter Tryz.func39, Tryz.ntmps39
  go_wp2_with fail
  go_ret2
  exact ⟨by rw [e0.out]; rfl, Below.refl _ _⟩
 have t4 : (((s[1]'h2).toNat : Int) == 116) = false := by simp; omega
 rw [if_neg n1] at HR
 clear n1
 by_cases n1 : (s[1]'h2).toNat = 114
 ·have t5 : (((s[1]'h2).toNat : Int) == 114) = true := by simp; omega
  have e0 : Hid (R = (13, 2)) := by unfold Hid; rw [HR.out, if_pos n1]; rfl
  have v0 : Hid ((s[1]'h2).toNat = 114) := n1
  clear HR n1
  go_enter Tryz.func39, Tryz.ntmps39
  go_wp2_with fail
  go_ret2
  exact ⟨by rw [e0.out]; rfl, Below.refl _ _⟩
 have t5 : (((s[1]'h2).toNat : Int) == 114) = false := by simp; omega
 rw [if_neg n1] at HR
 clear n1
 by_cases n1 : (s[1]'h2).toNat = 120
 ·have t6 : (((s[1]'h2).toNat : Int) == 120) = true := by simp; omega
  rw [if_pos n1] at HR
  have hsz : (s.extract 2 s.size).size = s.size - 2 := by rw [ByteArray.size_extract]; omega
  have CC := hid (cut_any (s.extract 2 s.size) w (by omega) HT.out)
  rw [bs_extract, hsz] at CC
  rw [List.length_drop, HL.out] at HR
  have CH := hid (fun (t : ByteArray) W (h : Below w.heap.size w W) (ht : t.size <= 1000000) => hexLetter_any t W ht (HT.out.below h))
  obtain ⟨D, hD⟩ : ∃ D, D = (bs s).drop 2 := ⟨_, rfl⟩
  have hDl : D.length = s.size - 2 := by rw [hD, List.length_drop, HL.out]
  rw [<- hD] at HR CC
  obtain ⟨k, hk⟩ : ∃ k, k = semiN D := ⟨_, rfl⟩
  have hkl := semiN_le D
  rw [<- hk] at HR CC hkl
  have HKL : Hid (∀ t : ByteArray, bs t = D.take k -> t.size = k) := fun t ht => by
   have := bs_length t
   rw [ht, List.length_take] at this
   omega
  have hk1 : Hid (k <= 1000000) := by unfold Hid; omega
  clear n1 hD hk hDl hkl hsz
  obtain ⟨b, hb⟩ : ∃ b, b = decide (k < s.size - 2) := ⟨_, rfl⟩
  rw [<- hb] at CC
  obtain ⟨N, hN⟩ : ∃ N, N = numH (D.take k) := ⟨_, rfl⟩
  rw [<- hN] at HR
  have HN := hid hN
  have HR2 : Hid (R = ((if b = true then N.map (fun n => (n, k + 3)) else none) : Option (Nat × Nat)).getD (0, 0)) := by
   unfold Hid; rw [HR.out, hb]; simp only [decide_eq_true_eq]
  clear HR hb hN
  go_enter Tryz.func39, Tryz.ntmps39
  go_wp2_with fail
  go_at_call 62
  with_reducible refine CC.out.mono ?_
  rintro e wa ⟨t, u, rfl, ht, ba⟩
  have hts := HKL.out t ht
  have CH2 := hid (CH.out t wa ba (by rw [hts]; exact hk1.out))
  rw [ht, <- HN.out] at CH2
  have HB := hid ba
  have HTS := hid hts
  clear ba ht hts CH
  go_wp2_with fail
  go_at_call 63
  with_reducible refine CH2.out.mono ?_
  rintro e wb ⟨rfl, bb⟩
  have HB2 := hid (HB.out.trans (bb.mono HB.out.size))
  have hts := HTS.out
  clear bb CH2
  unfold hexV
  cases N with
  | none =>
   have HR3 : Hid (R = (0, 0)) := by unfold Hid; rw [HR2.out]; split <;> rfl
   go_wp2_with fail
   go_ret2
   exact ⟨by rw [HR3.out]; rfl, HB2.out⟩
  | some v =>
   cases b
   ·have HR3 : Hid (R = (0, 0)) := HR2.out
    go_wp2_with fail
    go_ret2
    exact ⟨by rw [HR3.out]; rfl, HB2.out⟩
   ·have HR3 : Hid (R = (v, k + 3)) := HR2.out
    go_wp2_with fail
    go_ret2
    exact ⟨by rw [HR3.out]; show Ending.returned (.tuple #[.int .i32 ((v : Nat) : Int), .int .i64 (wrap64 (wrap64 (2 + (k : Int)) + 1))]) = _; rw [show wrap64 (wrap64 (2 + (k : Int)) + 1) = ((k + 3 : Nat) : Int) by have := hk1.out; unfold wrap64; omega], HB2.out⟩
 have t6 : (((s[1]'h2).toNat : Int) == 120) = false := by simp; omega
 rw [if_neg n1] at HR
 clear n1
 have HR3 : Hid (R = (0, 0)) := HR.out
 clear HR
 go_enter Tryz.func39, Tryz.ntmps39
 go_wp2_with fail
 go_ret2
 exact ⟨by rw [HR3.out]; rfl, Below.refl _ _⟩
end Go.Proofs.YtbkfinjajkjhaabGreatDoor
