/-
  Walks, of the document's answer: Letter, Rune, Utf.
-/
import Derived.Test.YtfkdpomhojhapaaDoorW40
import Derived.Test.YtfkdpomhojhapaaDoorW41
import Derived.Lib.ValidLaws
import Derived.Lib.RuneCount
import Derived.Laws.BitsAllLaws
set_option linter.unusedVariables false
set_option linter.unusedSimpArgs false
namespace Go.Proofs.YtfkdpomhojhapaaDoor
open Go.RowKit

def digs : Nat → Nat → List Nat
  | 0, _ => []
  | f + 1, v => if v = 0 then [] else (v % 10) :: digs f (v / 10)
theorem digs_ok : ∀ f v, v ≤ f → Dg 10 (digs f v) ∧ Tr (digs f v) ∧ val 10 (digs f v) = v ∧ (v ≠ 0 → digs f v ≠ [])
  | 0, v, h => by
    obtain rfl : v = 0 := by omega
    exact ⟨Dg.nil _, Tr.nil, rfl, fun h => absurd rfl h⟩
  | f + 1, v, h => by
    by_cases hv : v = 0
    · subst hv; simp [digs, val]; exact ⟨Dg.nil _, Tr.nil⟩
    · obtain ⟨h1, h2, h3, h4⟩ := digs_ok f (v / 10) (by omega)
      have e : digs (f + 1) v = (v % 10) :: digs f (v / 10) := by simp [digs, hv]
      rw [e]
      refine ⟨fun x hx => ?_, .inr ?_, ?_, fun _ => by simp⟩
      · rcases List.mem_cons.1 hx with rfl | hx
        · omega
        · exact h1 x hx
      · by_cases h0 : v / 10 = 0
        · have : digs f (v / 10) = [] := by rw [h0]; cases f <;> simp [digs]
          rw [this]; simp; omega
        · have hne := h4 h0
          have := h2.resolve_left hne
          obtain ⟨n, hn⟩ : ∃ n, (digs f (v / 10)).length = n + 1 := ⟨(digs f (v / 10)).length - 1, by have := List.length_pos_iff.2 hne; omega⟩
          rw [List.length_cons, hn]
          rw [hn] at this
          simpa using this
      · rw [val_cons, h3]; omega
/-- How an integer is printed in radix 10. -/
def printL (neg : Bool) (v : Nat) : List Nat := if digs v v = [] then [48] else (if neg then [45] else []) ++ ((digs v v).map chr).reverse
theorem Printed.is {neg : Bool} {v : Nat} {s : ByteArray} {en : Int} (h : Printed neg v 10 s en) : bs s = printL neg v ∧ en = 0 := by
  rcases h with ⟨a, _⟩ | ⟨_, he, D, d1, d2, d3, d4⟩
  · exact absurd ⟨by omega, by omega⟩ a
  · obtain ⟨k1, k2, k3, _⟩ := digs_ok v v (Nat.le_refl _)
    have hD : D = digs v v := digits_unique (B := 10) (by omega) d1 k1 d2 k2 (by rw [k3]; exact d3)
    subst hD
    exact ⟨d4, he⟩
/-- Is a text an integer's, as it is printed? -/
def printedB (t : ByteArray) : Bool := digitsB 10 (cutS (bs t)).2 && decide (hv 10 (cutS (bs t)).2 < B32 ^ 40) && decide (bs t = printL ((cutS (bs t)).1 && decide (hv 10 (cutS (bs t)).2 ≠ 0)) (hv 10 (cutS (bs t)).2))

/-- What is known of an integer that was read. -/
theorem ans_int {w : World} {x : Value} {en : Int} {neg : Bool} {v : Nat} (h : Ans w x en neg v) : (¬ Big v ∧ en = 0 ∧ ∃ ao n cap l, x = .agg #[.bool (neg && decide (v ≠ 0)), .slice ao n cap] ∧ Row .u32 B32 w ao n cap l ∧ goodB (neg && decide (v ≠ 0)) l = true ∧ val B32 l = v ∧ n ≤ 40) ∨ (Big v ∧ en = 10) := by
  rcases h with ⟨h1, h2, l, ⟨ao, n, cap, h3, R⟩, h4, h5⟩ | ⟨h1, h2, _⟩
  · refine .inl ⟨h1, h2, ao, n, cap, l, ?_, R, ?_, h5, ?_⟩
    · rw [h3]
      have e0 : (neg && decide (l ≠ [])) = (neg && decide (v ≠ 0)) := ?_
      · rw [e0]
      rw [Bool.eq_iff_iff]
      have := h4.zero_iff (B := B32) (by decide)
      rw [h5] at this
      simp only [Bool.and_eq_true, decide_eq_true_eq, ne_eq]
      have e2 : l.length = 0 ↔ l = [] := List.length_eq_zero_iff
      rw [this, e2]
    · have hl := (small_len R.dg h4).2 (by rw [h5]; exact h1)
      refine goodB_mk h4 hl fun h0 => ?_
      have := (h4.zero_iff (B := B32) (by decide)).2 h0
      rw [h5] at this
      simp [this]
    · rw [← R.len]; exact (small_len R.dg h4).2 (by rw [h5]; exact h1)
  · exact .inr ⟨h1, h2⟩

theorem Ans.form' {w : World} {x : Value} {en : Int} {neg : Bool} {v : Nat} (h : Ans w x en neg v) : ∃ s ao n cap l, x = .agg #[.bool s, .slice ao n cap] ∧ Row .u32 B32 w ao n cap l ∧ True := by
  rcases h with ⟨_, _, l, ⟨ao, n, cap, h3, R⟩, _⟩ | ⟨_, _, h⟩
  · exact ⟨_, ao, n, cap, l, h3, R, trivial⟩
  · exact ⟨false, none, 0, 0, [], h, Row.nil _ _ _ _, trivial⟩
theorem str_eq (s t : ByteArray) : (s.toList == t.toList) = decide (s = t) := by
  rw [Bool.eq_iff_iff, beq_iff_eq, decide_eq_true_eq]
  constructor
  · intro h
    rw [Lib.toList_data, Lib.toList_data] at h
    obtain ⟨a⟩ := s
    obtain ⟨b⟩ := t
    exact congrArg ByteArray.mk (Array.toList_inj.1 h)
  · rintro rfl; rfl

set_option maxHeartbeats 1000000 in
theorem isPrinted_any (t : ByteArray) (w : World) (ht : t.size ≤ maxLen) : Calls Tryd.prog 43 #[.string t] w fun e w' => e = .returned (.bool (printedB t)) ∧ Below w.heap.size w w' := by
  go_enter Tryd.func43, Tryd.ntmps43
  go_wp2_with fail
  refine (parse_any t 10 _ ht).mono ?_
  rintro e w1 ⟨x, en, rfl, b1, hP⟩
  rcases hP with ⟨h, _⟩ | ⟨_, hd, rfl, rfl⟩ | ⟨_, hd, hA⟩
  · exact absurd ⟨by omega, by omega⟩ h
  · go_wp2
    go_ret
    refine ⟨?_, Bt b1 (Ba _ _)⟩
    unfold printedB; rw [hd]; rfl
  · rcases ans_int hA with ⟨hb, rfl, ao, n, cap, l, rfl, R, g, hv_, hn⟩ | ⟨hb, rfl⟩
    · have b2 := Ba w1 (.cells #[.bool ((cutS (bs t)).1 && decide (hv (10 : Int).toNat (cutS (bs t)).2 ≠ 0)), .slice ao n cap] 56)
      have R2 := hid (R.below b2)
      have G2 := hid g
      have HB := hid (Bt b1 b2)
      have HD := hid hd
      have HV := hid hv_
      have HBG := hid hb
      obtain ⟨sg, hsg⟩ : ∃ sg, sg = ((cutS (bs t)).1 && decide (hv (10 : Int).toNat (cutS (bs t)).2 ≠ 0)) := ⟨_, rfl⟩
      rw [← hsg] at R2 G2 HB b2 ⊢
      have HSG := hid hsg
      clear R g hA hd hv_ hb b1 b2 hsg
      go_wp2_with fail
      generalize w1.alloc (.cells #[.bool sg, .slice ao n cap] 56) = w2 at *
      refine (print_all sg ao n cap l 10 w2 R2.out G2.out).mono ?_
      rintro e w3 ⟨s, en, rfl, hpr, b3⟩
      obtain ⟨hbs, rfl⟩ := hpr.is
      have HB3 := hid (Bt HB.out b3)
      have HE : Hid (decide (s = t) = printedB t) := by
        unfold Hid printedB
        rw [HV.out, HSG.out] at hbs
        have e10 : (10 : Int).toNat = 10 := rfl
        rw [e10] at hbs
        have hnb : hv 10 (cutS (bs t)).2 < B32 ^ 40 := by have := HBG.out; unfold Big at this; rw [e10] at this; omega
        rw [HD.out, ← hbs]
        simp only [Bool.true_and, hnb, decide_true]
        rw [Bool.eq_iff_iff, decide_eq_true_eq, decide_eq_true_eq]
        exact ⟨fun h => by rw [h], fun h => bs_ext h.symm⟩
      clear hpr hbs b3
      go_wp2
      go_ret
      refine ⟨?_, HB3.out⟩
      rw [← HE.out]
      exact congrArg (fun z => Ending.returned (.bool z)) (str_eq s t)
    · have HB := hid b1
      have hp : Hid (printedB t = false) := by
        unfold Hid printedB
        have hnb : ¬ hv 10 (cutS (bs t)).2 < B32 ^ 40 := by unfold Big at hb; have e10 : (10 : Int).toNat = 10 := rfl; rw [e10] at hb; omega
        simp only [hnb, decide_false, Bool.and_false, Bool.false_and]
      obtain ⟨sx, ax, nx, cx, lx, rfl, _, _⟩ := hA.form'
      clear hA hb hd b1
      go_wp2
      go_ret
      exact ⟨by rw [hp.out]; rfl, Bt HB.out (Ba _ _)⟩

end Go.Proofs.YtfkdpomhojhapaaDoor

set_option linter.unusedVariables false
set_option linter.unusedSimpArgs false
namespace Go.Proofs.YtfkdpomhojhapaaDoor
open Go.RowKit

/-- Is a number a letter's? -/
def letB (n : Int) : Bool := decide (0 ≤ n) && decide (n ≤ 1114111) && (decide (n < 55296) || decide (57343 < n))
theorem letB_valid (n : Int) : letB n = Utf8.valid n := by
  unfold letB Utf8.valid
  rw [Bool.eq_iff_iff]
  simp only [Bool.and_eq_true, Bool.or_eq_true, decide_eq_true_eq]
  omega

theorem letter_any (n : Int) (w : World) : Calls Tryd.prog 41 #[.int .i64 n] w fun e w' => e = .returned (.bool (letB n)) ∧ w' = w := by
  unfold letB
  by_cases h1 : 0 ≤ n <;> by_cases h2 : n ≤ 1114111 <;> by_cases h3 : n < 55296 <;> by_cases h4 : 57343 < n <;>
  · go_enter Tryd.func41, Tryd.ntmps41
    go_wp2
    go_ret
    exact ⟨by simp [h1, h2, h3, h4], rfl⟩

/-- The letter at a place and its bytes; nothing: 0, 0. -/
def runeD (s : ByteArray) (i : Nat) : Nat × Nat := if Utf8.decode s i = (65533, 1) then (0, 0) else Utf8.decode s i

theorem and192 : ∀ x : Fin 256, bits .and .u8 ((x.1 : Nat) : Int) 192 = ((x.1 / 64 * 64 : Nat) : Int) := by decide +kernel
theorem and63 : ∀ x : Fin 256, bits .and .u8 ((x.1 : Nat) : Int) 63 = ((x.1 % 64 : Nat) : Int) := by decide +kernel
theorem and31 : ∀ x : Fin 256, bits .and .i64 ((x.1 : Nat) : Int) 31 = ((x.1 % 32 : Nat) : Int) := by decide +kernel
theorem and15 : ∀ x : Fin 256, bits .and .i64 ((x.1 : Nat) : Int) 15 = ((x.1 % 16 : Nat) : Int) := by decide +kernel
theorem and7' : ∀ x : Fin 256, bits .and .i64 ((x.1 : Nat) : Int) 7 = ((x.1 % 8 : Nat) : Int) := by decide +kernel
theorem i64_or_nat (a b : Nat) (ha : a < 9223372036854775808) (hb : b < 9223372036854775808) : bits .or .i64 (a : Int) (b : Int) = ((a ||| b : Nat) : Int) := by
  have hx : a ||| b < 2 ^ 63 := Nat.or_lt_two_pow (by omega) (by omega)
  have h1 : (BitVec.ofInt 64 (a : Int)).toNat = a := by
    rw [BitVec.ofInt_natCast, BitVec.toNat_ofNat]; exact Nat.mod_eq_of_lt (by omega)
  have h2 : (BitVec.ofInt 64 (b : Int)).toNat = b := by
    rw [BitVec.ofInt_natCast, BitVec.toNat_ofNat]; exact Nat.mod_eq_of_lt (by omega)
  show IntKind.i64.wrap ((BitVec.ofInt 64 (a : Int) ||| BitVec.ofInt 64 (b : Int)).toNat : Int) = _
  rw [BitVec.toNat_or, h1, h2, IntKind.wrap_i64]
  omega
theorem i64_or_join (a b : Nat) (ha : a < 1048576) (hb : b < 64) : bits .or .i64 ((a : Int) * 64) (b : Int) = ((a * 64 + b : Nat) : Int) := by
  rw [show ((a : Int) * 64) = ((a * 64 : Nat) : Int) by omega, i64_or_nat _ _ (by omega) (by omega), nat_join 6 _ _ (by omega) (by omega)]

/-- The byte at place i. -/
def byteAt (s : ByteArray) (i : Nat) : Nat := (s.get! i).toNat
theorem byteAt_get {s : ByteArray} {i : Nat} (h : i < s.size) : (s[i]'h).toNat = byteAt s i := by
  unfold byteAt
  congr 1
  obtain ⟨d⟩ := s
  show d[i]'h = d[i]!
  rw [getElem!_pos d i h]
theorem byteAt_lt (s : ByteArray) (i : Nat) : byteAt s i < 256 := UInt8.toNat_lt _
/-- What lies behind the lead byte, taken up. -/
def cvs (s : ByteArray) (i c0 : Nat) : Nat → Nat
  | 0 => c0
  | j + 1 => cvs s i c0 j * 64 + byteAt s (i + (j + 1)) % 64
theorem cvs_lt (s : ByteArray) (i c0 : Nat) (h : c0 < 32) : ∀ j, cvs s i c0 j < 32 * 64 ^ j
  | 0 => by simpa [cvs] using h
  | j + 1 => by
    have := cvs_lt s i c0 h j
    unfold cvs
    rw [Nat.pow_succ]; omega
def conts (s : ByteArray) (i j : Nat) : Prop := ∀ q, q < j → i + (q + 1) < s.size ∧ byteAt s (i + (q + 1)) / 64 = 2

theorem decode_eq (s : ByteArray) (i : Nat) : Utf8.decode s i =
    (if byteAt s i < 128 then (byteAt s i, 1)
    else if byteAt s i / 32 == 6 && (decide (i + 1 < s.size) && byteAt s (i + 1) / 64 == 2) then
      (if byteAt s i % 32 * 64 + byteAt s (i + 1) % 64 ≥ 128 then (byteAt s i % 32 * 64 + byteAt s (i + 1) % 64, 2) else (65533, 1))
    else if byteAt s i / 16 == 14 && (decide (i + 1 < s.size) && byteAt s (i + 1) / 64 == 2) && (decide (i + 2 < s.size) && byteAt s (i + 2) / 64 == 2) then
      (if decide (byteAt s i % 16 * 4096 + byteAt s (i + 1) % 64 * 64 + byteAt s (i + 2) % 64 ≥ 2048) && Utf8.valid (byteAt s i % 16 * 4096 + byteAt s (i + 1) % 64 * 64 + byteAt s (i + 2) % 64 : Nat) then (byteAt s i % 16 * 4096 + byteAt s (i + 1) % 64 * 64 + byteAt s (i + 2) % 64, 3) else (65533, 1))
    else if byteAt s i / 8 == 30 && (decide (i + 1 < s.size) && byteAt s (i + 1) / 64 == 2) && (decide (i + 2 < s.size) && byteAt s (i + 2) / 64 == 2) && (decide (i + 3 < s.size) && byteAt s (i + 3) / 64 == 2) then
      (if decide (byteAt s i % 8 * 262144 + byteAt s (i + 1) % 64 * 4096 + byteAt s (i + 2) % 64 * 64 + byteAt s (i + 3) % 64 ≥ 65536) && Utf8.valid (byteAt s i % 8 * 262144 + byteAt s (i + 1) % 64 * 4096 + byteAt s (i + 2) % 64 * 64 + byteAt s (i + 3) % 64 : Nat) then (byteAt s i % 8 * 262144 + byteAt s (i + 1) % 64 * 4096 + byteAt s (i + 2) % 64 * 64 + byteAt s (i + 3) % 64, 4) else (65533, 1))
    else (65533, 1)) := by
  rfl

/-- The letter, class by class. -/
theorem runeD_1 {s : ByteArray} {i : Nat} (h : byteAt s i < 128) : runeD s i = (byteAt s i, 1) := by
  unfold runeD; rw [decode_eq, if_pos h, if_neg]; intro e; simp at e; omega
theorem runeD_bad {s : ByteArray} {i : Nat} (h : (128 ≤ byteAt s i ∧ byteAt s i < 192) ∨ 248 ≤ byteAt s i) : runeD s i = (0, 0) := by
  unfold runeD
  rw [if_pos]
  rw [decode_eq, if_neg (by omega), if_neg, if_neg, if_neg] <;> simp <;> omega
theorem runeD_2 {s : ByteArray} {i : Nat} (h1 : 192 ≤ byteAt s i) (h2 : byteAt s i < 224) : runeD s i = if i + 1 < s.size ∧ byteAt s (i + 1) / 64 = 2 ∧ 128 ≤ cvs s i (byteAt s i % 32) 1 then (cvs s i (byteAt s i % 32) 1, 2) else (0, 0) := by
  unfold runeD
  have e0 : byteAt s i / 32 = 6 := by omega
  have e1 : ¬ byteAt s i / 16 = 14 := by omega
  have e2 : ¬ byteAt s i / 8 = 30 := by omega
  have hlt : ¬ byteAt s i < 128 := by omega
  rw [decode_eq]
  simp only [cvs, hlt, e0, e1, e2, beq_iff_eq, Bool.and_eq_true, decide_eq_true_eq, true_and, false_and, if_false]
  by_cases ha : i + 1 < s.size <;> by_cases hb : byteAt s (i + 1) / 64 = 2 <;> by_cases hc : 128 ≤ byteAt s i % 32 * 64 + byteAt s (i + 1) % 64 <;> simp [ha, hb, hc]
theorem runeD_3 {s : ByteArray} {i : Nat} (h1 : 224 ≤ byteAt s i) (h2 : byteAt s i < 240) : runeD s i = if (i + 1 < s.size ∧ byteAt s (i + 1) / 64 = 2) ∧ (i + 2 < s.size ∧ byteAt s (i + 2) / 64 = 2) ∧ 2048 ≤ cvs s i (byteAt s i % 16) 2 ∧ letB (cvs s i (byteAt s i % 16) 2 : Nat) = true then (cvs s i (byteAt s i % 16) 2, 3) else (0, 0) := by
  unfold runeD
  have e0 : ¬ byteAt s i / 32 = 6 := by omega
  have e1 : byteAt s i / 16 = 14 := by omega
  have e2 : ¬ byteAt s i / 8 = 30 := by omega
  have ec : cvs s i (byteAt s i % 16) 2 = byteAt s i % 16 * 4096 + byteAt s (i + 1) % 64 * 64 + byteAt s (i + 2) % 64 := by
    show (byteAt s i % 16 * 64 + byteAt s (i + 1) % 64) * 64 + byteAt s (i + 2) % 64 = _
    omega
  have hlt : ¬ byteAt s i < 128 := by omega
  rw [decode_eq, ec, letB_valid]
  simp only [hlt, e0, e1, e2, beq_iff_eq, Bool.and_eq_true, decide_eq_true_eq, true_and, false_and, if_false]
  generalize byteAt s i % 16 * 4096 + byteAt s (i + 1) % 64 * 64 + byteAt s (i + 2) % 64 = c
  by_cases ha : i + 1 < s.size <;> by_cases hb : byteAt s (i + 1) / 64 = 2 <;> by_cases ha2 : i + 2 < s.size <;> by_cases hb2 : byteAt s (i + 2) / 64 = 2 <;> by_cases hc : 2048 ≤ c <;> cases hv : Utf8.valid (c : Nat) <;> simp [ha, hb, ha2, hb2, hc, hv]
theorem runeD_4 {s : ByteArray} {i : Nat} (h1 : 240 ≤ byteAt s i) (h2 : byteAt s i < 248) : runeD s i = if (i + 1 < s.size ∧ byteAt s (i + 1) / 64 = 2) ∧ (i + 2 < s.size ∧ byteAt s (i + 2) / 64 = 2) ∧ (i + 3 < s.size ∧ byteAt s (i + 3) / 64 = 2) ∧ 65536 ≤ cvs s i (byteAt s i % 8) 3 ∧ letB (cvs s i (byteAt s i % 8) 3 : Nat) = true then (cvs s i (byteAt s i % 8) 3, 4) else (0, 0) := by
  unfold runeD
  have e0 : ¬ byteAt s i / 32 = 6 := by omega
  have e1 : ¬ byteAt s i / 16 = 14 := by omega
  have e2 : byteAt s i / 8 = 30 := by omega
  have ec : cvs s i (byteAt s i % 8) 3 = byteAt s i % 8 * 262144 + byteAt s (i + 1) % 64 * 4096 + byteAt s (i + 2) % 64 * 64 + byteAt s (i + 3) % 64 := by
    show ((byteAt s i % 8 * 64 + byteAt s (i + 1) % 64) * 64 + byteAt s (i + 2) % 64) * 64 + byteAt s (i + 3) % 64 = _
    omega
  have hlt : ¬ byteAt s i < 128 := by omega
  rw [decode_eq, ec, letB_valid]
  simp only [hlt, e0, e1, e2, beq_iff_eq, Bool.and_eq_true, decide_eq_true_eq, true_and, false_and, if_false]
  generalize byteAt s i % 8 * 262144 + byteAt s (i + 1) % 64 * 4096 + byteAt s (i + 2) % 64 * 64 + byteAt s (i + 3) % 64 = c
  by_cases ha : i + 1 < s.size <;> by_cases hb : byteAt s (i + 1) / 64 = 2 <;> by_cases ha2 : i + 2 < s.size <;> by_cases hb2 : byteAt s (i + 2) / 64 = 2 <;> by_cases ha3 : i + 3 < s.size <;> by_cases hb3 : byteAt s (i + 3) / 64 = 2 <;> by_cases hc : 65536 ≤ c <;> cases hv : Utf8.valid (c : Nat) <;> simp [ha, hb, ha2, hb2, ha3, hb3, hc, hv]

end Go.Proofs.YtfkdpomhojhapaaDoor
