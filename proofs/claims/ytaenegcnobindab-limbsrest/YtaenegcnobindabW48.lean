/-
  Windows within rows; walks: Len32, LeadingZeros32.
-/
import Derived.Test.YtaenegcnobindabW47
import Derived.Test.YtaenegcnobindabMath3
set_option linter.unusedVariables false
set_option linter.unusedSimpArgs false
namespace Go.Proofs.Ytaenegcnobindab
open Go.RowKit

section
variable {k : IntKind} {e : TypeId} {g o n : Nat} {w w' : World} {cur : Array Value} {l : List Nat}
theorem getD_drop (l : List Nat) (i j : Nat) : (l.drop i).getD j 0 = l.getD (i + j) 0 := by
  rw [List.getD_eq_getElem?_getD, List.getElem?_drop, ← List.getD_eq_getElem?_getD]
theorem getD_append_right {l r : List Nat} {i : Nat} (h : l.length ≤ i) : (l ++ r).getD i 0 = r.getD (i - l.length) 0 := by
  rw [List.getD_eq_getElem?_getD, List.getElem?_append_right h, ← List.getD_eq_getElem?_getD]
theorem Win.sub (h : Win k e w g o n cur l) (i m : Nat) (him : i + m ≤ n) : Win k e w g (o + i) m cur ((l.drop i).take m) :=
  ⟨h.blk, by have := h.fits; omega, by rw [List.length_take, List.length_drop, h.len]; omega, fun j hj => by
    rw [getD_take hj, getD_drop, Nat.add_assoc]; exact h.at_ (i + j) (by omega)⟩
theorem Onto.whole {i m : Nat} {L : List Nat} (h : Onto k e g (o + i) m w w' cur L) (hw : Win k e w g o n cur l) (him : i + m ≤ n) : Onto k e g o n w w' cur (l.take i ++ (L ++ l.drop (i + m))) := by
  obtain ⟨c, hc, h1, h2⟩ := h.row
  have hll := hw.len
  have hLl := hc.len
  have hli : (l.take i).length = i := by rw [List.length_take]; omega
  refine ⟨h.os, h.tape, h.output, h.size, h.block, c, ⟨hc.blk, by rw [h1]; exact hw.fits, by rw [List.length_append, List.length_append, hli, hLl, List.length_drop]; omega, fun j hj => ?_⟩, h1, fun j hj => h2 j (by omega)⟩
  by_cases hj1 : j < i
  · rw [h2 _ (by omega), hw.at_ j hj, getD_append_left (by omega), getD_take hj1]
  · rw [getD_append_right (by omega), hli]
    by_cases hj2 : j < i + m
    · rw [getD_append_left (by omega)]
      have := hc.at_ (j - i) (by omega)
      rwa [show o + i + (j - i) = o + j by omega] at this
    · rw [h2 _ (by omega), hw.at_ j hj, getD_append_right (by omega), getD_drop, hLl, show i + m + (j - i - m) = j by omega]
theorem Win.frame (h : Win k e w g o n cur l) (hb : w'.heap[g]? = w.heap[g]?) : Win k e w' g o n cur l := ⟨hb.trans h.blk, h.fits, h.len, h.at_⟩
theorem Win.row (h : Win k e w g o n cur l) {B cap : Nat} (hd : Dg B l) (h1 : n ≤ cap) (h2 : cap ≤ maxLen) : Row k B w (some ⟨g, o, none⟩) n cap l := ⟨h.len, h1, h2, fun e => (by cases e), hd, h.rd⟩
end

theorem len_mk {x d c L : Nat} (hd : d = x / 2 ^ c) (h1 : 2 ^ (L - 1) ≤ d) (h2 : d < 2 ^ L) (h3 : 0 < L) : 2 ^ (c + L - 1) ≤ x ∧ x < 2 ^ (c + L) := by
  have hp : 0 < 2 ^ c := Nat.pow_pos (by decide)
  subst hd
  constructor
  · rw [show c + L - 1 = (L - 1) + c by omega, Nat.pow_add]
    exact (Nat.le_div_iff_mul_le hp).1 h1
  · rw [Nat.add_comm, Nat.pow_add]
    exact (Nat.div_lt_iff_lt_mul hp).1 h2

def LenPost (x : Nat) (w : World) (e : Ending) (w' : World) : Prop := ∃ L : Nat, e = .returned (.int .i64 L) ∧ 0 < L ∧ L ≤ 32 ∧ 2 ^ (L - 1) ≤ x ∧ x < 2 ^ L ∧ w' = w

theorem len_end (x d c : Nat) (z : Int) (w : World) (hc : c ≤ 24) (hd : d = x / 2 ^ c) (h0 : 0 < d) (h1 : d < 256) (hz : ∀ h : d < lenTab.size, z = ((c + (lenTab[d]'h).toNat : Nat) : Int)) : LenPost x w (.returned (.int .i64 z)) w := by
  have hs : lenTab.size = 256 := by kernel_rfl
  have hlt : d < lenTab.size := by omega
  obtain ⟨a1, a2, a3, a4⟩ := lenTab_get ⟨d, h1⟩ h0 hlt
  obtain ⟨b1, b2⟩ := len_mk hd a1 a2 a3
  refine ⟨_, by rw [hz hlt], ?_, ?_, b1, b2, rfl⟩
  · omega
  · have : (lenTab[d]'hlt).toNat ≤ 8 := a4
    omega
theorem len_wrap (c t : Nat) (hc : c ≤ 24) (ht : t < 256) : wrap64 ((c : Int) + wrap64 (t : Int)) = ((c + t : Nat) : Int) := by unfold wrap64; omega

theorem len_wrap0 (t : Nat) (ht : t < 256) : wrap64 (wrap64 (t : Int)) = ((0 + t : Nat) : Int) := by unfold wrap64; omega

set_option maxRecDepth 100000 in
set_option maxHeartbeats 400000 in
theorem len32_any (x : Nat) (h0 : 0 < x) (hx : x < 4294967296) (w : World) : Calls Try.prog 64 #[.int .u32 x] w (LenPost x w) := by
  go_enter Try.func64, Try.ntmps64
  by_cases h1 : 65536 ≤ x
  · have e1 : decide ((65536 : Int) ≤ x) = true := by simp; omega
    go_wp2
    · go_ret
      exact len_end x (x / 65536 / 256) 24 _ w (by omega) (by rw [Nat.div_div_eq_div_mul]) (by omega) (by omega) (fun h => len_wrap 24 _ (by omega) (UInt8.toNat_lt _))
    · go_ret
      exact len_end x (x / 65536) 16 _ w (by omega) rfl (by omega) (by omega) (fun h => len_wrap 16 _ (by omega) (UInt8.toNat_lt _))
  · have e1 : decide ((65536 : Int) ≤ x) = false := by simp; omega
    go_wp2
    · go_ret
      exact len_end x (x / 256) 8 _ w (by omega) rfl (by omega) (by omega) (fun h => len_wrap 8 _ (by omega) (UInt8.toNat_lt _))
    · go_ret
      exact len_end x x 0 _ w (by omega) (by simp) (by omega) (by omega) (fun h => len_wrap0 _ (UInt8.toNat_lt _))

theorem lead_mk {x L s : Nat} (h1 : 0 < L) (h2 : L ≤ 32) (h3 : 2 ^ (L - 1) ≤ x) (h4 : x < 2 ^ L) (hs : s = 32 - L) : s < 32 ∧ 2147483648 ≤ x * 2 ^ s ∧ x * 2 ^ s < 4294967296 := by
  refine ⟨by omega, ?_, ?_⟩
  · have : 2 ^ (L - 1) * 2 ^ s ≤ x * 2 ^ s := Nat.mul_le_mul_right _ h3
    rw [← Nat.pow_add, show L - 1 + s = 31 by omega] at this
    exact this
  · have : x * 2 ^ s < 2 ^ L * 2 ^ s := Nat.mul_lt_mul_of_pos_right h4 (Nat.pow_pos (by decide))
    rw [← Nat.pow_add, show L + s = 32 by omega] at this
    exact this

theorem lead32_any (x : Nat) (h0 : 0 < x) (hx : x < 4294967296) (w : World) : Calls Try.prog 55 #[.int .u32 x] w fun e w' => ∃ s : Nat, e = .returned (.int .i64 s) ∧ s < 32 ∧ 2147483648 ≤ x * 2 ^ s ∧ x * 2 ^ s < 4294967296 ∧ w' = w := by
  go_enter Try.func55, Try.ntmps55
  go_wp2_with (go_at_call 64; refine (len32_any x h0 hx _).mono ?_; rintro e wz ⟨L, rfl, a1, a2, a3, a4, hwz⟩; rw [hwz]; have A3 := hid a3; have A4 := hid a4; clear a3 a4)
  go_ret
  obtain ⟨b1, b2, b3⟩ := lead_mk a1 a2 A3.out A4.out rfl
  exact ⟨32 - L, ret_i64 (by omega), b1, b2, b3, rfl⟩

end Go.Proofs.Ytaenegcnobindab
