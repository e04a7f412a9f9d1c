/-
  Walks: mulSmall of nothing, cutSign, allDigits, rowOf, Parse.
-/
import Derived.Test.YtgoaaeiefpdkpaaDoorW10
import Derived.Lib.Strings
set_option linter.unusedVariables false
set_option linter.unusedSimpArgs false
namespace Go.Proofs.YtgoaaeiefpdkpaaDoor
open Go.RowKit

/-- A text's bytes as numbers. -/
def bs (s : ByteArray) : List Nat := s.data.toList.map UInt8.toNat
theorem bs_length (s : ByteArray) : (bs s).length = s.size := by unfold bs; rw [List.length_map]; rfl
theorem bs_get (s : ByteArray) (k : Nat) (h : k < s.size) : (bs s).getD k 0 = (s[k]'h).toNat := by
  unfold bs
  rw [List.getD_eq_getElem?_getD, List.getElem?_map, List.getElem?_eq_getElem (show k < s.data.toList.length from h)]
  rfl
theorem bs_lt (s : ByteArray) : Dg 256 (bs s) := by
  intro x hx
  obtain ⟨c, _, rfl⟩ := List.mem_map.1 hx
  exact c.toNat_lt
theorem bs_extract (s : ByteArray) (a : Nat) : bs (s.extract a s.size) = (bs s).drop a := by
  unfold bs
  rw [Lib.extract_data, List.take_of_length_le (by rw [List.length_drop]; exact Nat.le_refl _), List.map_drop]
theorem empty_iff (s : ByteArray) : s.toList.isEmpty = decide (s.size = 0) := by
  rw [Lib.toList_data]
  by_cases h : s.size = 0
  · have : s.data.toList = [] := List.length_eq_zero_iff.1 h
    rw [this]; simp [h]
  · have : s.data.toList ≠ [] := fun e => h (by show s.data.toList.length = 0; rw [e]; rfl)
    simp only [h, decide_false]
    cases hl : s.data.toList with
    | nil => exact absurd hl this
    | cons => rfl

set_option maxHeartbeats 400000 in
theorem mulSmall_none (ao : Option Addr) (cap : Nat) (f d : Nat) (w : World) (hf : f < B32) (hd : d < B32) :
    Calls Tryd.prog 71 #[.slice ao 0 cap, .int .u32 f, .int .u32 d] w fun e w' => e = .returned (.int .u32 (d : Nat)) ∧ w' = w := by
  unfold B32 at hf hd
  go_enter Tryd.func71, Tryd.ntmps71
  go_wp2
  go_loop [7, 15] (fun c i => c = .int .u64 d ∧ i = .int .i64 0) (fun _ _ => 0)
  case atStart => exact ⟨rfl, rfl⟩
  case round =>
    obtain ⟨rfl, rfl⟩ := hrel
    go_wp2
    go_ret
    exact ⟨rfl, rfl⟩

/-- A sign cut off. -/
def cutS : List Nat → Bool × List Nat
  | [] => (false, [])
  | c :: r => if c = 43 ∨ c = 45 then (decide (c = 45), r) else (false, c :: r)
theorem cutS_len (l : List Nat) : (cutS l).2.length ≤ l.length := by
  cases l with
  | nil => simp [cutS]
  | cons c r => by_cases h : c = 43 ∨ c = 45 <;> simp [cutS, h]

set_option maxHeartbeats 800000 in
theorem cutSign_any (s : ByteArray) (w : World) (hs : s.size ≤ maxLen) :
    Calls Tryd.prog 61 #[.string s] w fun e w' => ∃ t, e = .returned (.tuple #[.bool (cutS (bs s)).1, .string t]) ∧ bs t = (cutS (bs s)).2 ∧ Below w.heap.size w w' := by
  unfold maxLen at hs
  by_cases h0 : s.size = 0
  · have hem : s.toList.isEmpty = true := by rw [empty_iff]; simp [h0]
    have hnil : bs s = [] := List.length_eq_zero_iff.1 (by rw [bs_length]; exact h0)
    have HN := hid hnil
    clear hnil
    go_enter Tryd.func61, Tryd.ntmps61
    go_wp2
    go_ret2
    rw [HN.out]
    exact ⟨s, rfl, by rw [HN.out]; rfl, Below.refl _ _⟩
  · have hem : s.toList.isEmpty = false := by rw [empty_iff]; simp [h0]
    have hp : 0 < s.size := by omega
    have hc0 := bs_get s 0 hp
    obtain ⟨c, r, hcr⟩ : ∃ c r, bs s = c :: r := by
      cases h : bs s with
      | nil => rw [← bs_length, h] at hp; simp at hp
      | cons c r => exact ⟨c, r, rfl⟩
    have hcc : c = (s[0]'hp).toNat := by rw [← hc0, hcr]; rfl
    have HX : Hid (bs (s.extract 1 s.size) = r) := by unfold Hid; rw [bs_extract, hcr]; rfl
    have HC := hid hcr
    clear hc0 hcr
    by_cases h1 : c = 43
    · have e1 : (((s[0]'hp).toNat : Int) == 43) = true := by rw [← hcc, h1]; rfl
      have e2 : (((s[0]'hp).toNat : Int) == 45) = false := by rw [← hcc, h1]; rfl
      have H1 := hid h1
      clear h1 hcc
      go_enter Tryd.func61, Tryd.ntmps61
      go_wp2
      go_quiet (fail)
      go_wp2
      go_ret2
      rw [HC.out, H1.out]
      exact ⟨s.extract 1 s.size, rfl, by rw [HX.out]; rfl, Bd _ _⟩
    · by_cases h2 : c = 45
      · have e1 : (((s[0]'hp).toNat : Int) == 43) = false := by rw [← hcc, h2]; rfl
        have e2 : (((s[0]'hp).toNat : Int) == 45) = true := by rw [← hcc, h2]; rfl
        have H2 := hid h2
        clear h1 h2 hcc
        go_enter Tryd.func61, Tryd.ntmps61
        go_wp2
        go_quiet (fail)
        go_wp2
        go_ret2
        rw [HC.out, H2.out]
        exact ⟨s.extract 1 s.size, rfl, by rw [HX.out]; rfl, Bd _ _⟩
      · have e1 : (((s[0]'hp).toNat : Int) == 43) = false := by rw [← hcc]; simp; omega
        have e2 : (((s[0]'hp).toNat : Int) == 45) = false := by rw [← hcc]; simp; omega
        have H2 : Hid (cutS (c :: r) = (false, c :: r)) := by simp [Hid, cutS, h1, h2]
        clear h1 h2 hcc
        go_enter Tryd.func61, Tryd.ntmps61
        go_wp2
        go_ret2
        rw [HC.out, H2.out]
        exact ⟨s, rfl, HC.out, Below.refl _ _⟩

set_option maxHeartbeats 800000 in
theorem allDigits_any (s : ByteArray) (radix : Nat) (w : World) (hs : s.size ≤ maxLen) (hr : radix ≤ 36) :
    Calls Tryd.prog 62 #[.string s, .int .i64 radix] w fun e w' => e = .returned (.bool ((bs s).all (fun c => decide (dgt c < radix)) && decide (bs s ≠ []))) ∧ w' = w := by
  unfold maxLen at hs
  go_enter Tryd.func62, Tryd.ntmps62
  go_wp2
  go_loop [5] (fun i => ∃ k : Nat, k ≤ s.size ∧ i = .int .i64 k ∧ Hid (∀ j, j < k → dgt ((bs s).getD j 0) < radix)) (fun i => s.size - (intOf i).toNat)
  case atStart => exact ⟨0, Nat.zero_le _, rfl, fun j hj => absurd hj (Nat.not_lt_zero _)⟩
  case round =>
    obtain ⟨k, hk, rfl, hI⟩ := hrel
    by_cases hlt : k < s.size
    · have hd := bs_get s k hlt
      obtain ⟨d, hdd⟩ : ∃ d, d = dgt (s[k]'hlt).toNat := ⟨_, rfl⟩
      have hd36 : d ≤ 36 := by rw [hdd]; exact dgt_le _
      have HC : Hid (∀ wx, Calls Tryd.prog 70 #[.int .u8 ((s[k]'hlt).toNat : Nat)] wx fun e w' => e = .returned (.int .i64 d) ∧ w' = wx) := fun wx => by rw [hdd]; exact digitOf_any _ (s[k]'hlt).toNat_lt wx
      have HD : Hid (d = dgt ((bs s).getD k 0)) := by unfold Hid; rw [hd, hdd]
      clear hdd hd
      by_cases hdr : d < radix
      · go_wp2_with (go_at_call 70; refine (HC.out _).mono ?_; rintro e w' ⟨rfl, rfl⟩)
        go_round
        case rel => exact ⟨k + 1, by omega, by go_num, by
          intro j hj
          by_cases hjk : j < k
          · exact hI.out j hjk
          · obtain rfl : j = k := by omega
            rw [← HD.out]; exact hdr⟩
        case measure => simp [intOf]; omega
      · go_wp2_with (go_at_call 70; refine (HC.out _).mono ?_; rintro e w' ⟨rfl, rfl⟩)
        go_ret
        refine ⟨ret_bool ?_, rfl⟩
        symm
        rw [Bool.and_eq_false_iff]
        left
        rw [List.all_eq_false]
        exact ⟨(bs s).getD k 0, getD_mem (by rw [bs_length]; exact hlt), by simp; rw [← List.getD_eq_getElem?_getD, ← HD.out]; omega⟩
    · obtain rfl : k = s.size := by omega
      have hem := empty_iff s
      have HE : Hid (decide (bs s = []) = decide (s.size = 0)) := by
        unfold Hid
        rw [decide_eq_decide, ← bs_length]; exact List.length_eq_zero_iff.symm
      have HA : Hid ((bs s).all (fun c => decide (dgt c < radix)) = true) := by
        unfold Hid
        rw [List.all_eq_true]
        intro x hx
        obtain ⟨j, hj, rfl⟩ := List.mem_iff_getElem.1 hx
        have := hI.out j (by rw [← bs_length]; exact hj)
        rw [List.getD_eq_getElem?_getD, List.getElem?_eq_getElem hj] at this
        simpa using this
      go_wp2
      go_ret
      refine ⟨ret_bool ?_, rfl⟩
      rw [HA.out, decide_eq_emptyBytes, empty_iff]
      simp only [ne_eq, decide_not, HE.out, Bool.true_and]

end Go.Proofs.YtgoaaeiefpdkpaaDoor
