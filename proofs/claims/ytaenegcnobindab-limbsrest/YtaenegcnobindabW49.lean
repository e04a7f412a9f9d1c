/-
  Walks: shiftDown.
-/
import Derived.Test.YtaenegcnobindabW48
set_option linter.unusedVariables false
set_option linter.unusedSimpArgs false
namespace Go.Proofs.Ytaenegcnobindab
open Go.RowKit

theorem downStep {x a X s2 B : Nat} (hd : s2 ∣ B) (hs : 0 < s2) (ha : X % s2 = a % s2) (hx : x < B) : (a * B + x) / s2 % B + B * (X / s2) = (x + B * X) / s2 := by
  obtain ⟨z, hz⟩ : ∃ z, z = X % s2 := ⟨_, rfl⟩
  have hzs : z < s2 := by rw [hz]; exact Nat.mod_lt _ hs
  have e1 : x + B * X = x + B * z + s2 * (B * (X / s2)) := by
    have := Nat.div_add_mod X s2
    rw [← hz] at this
    have h2 : B * X = B * (s2 * (X / s2) + z) := by rw [this]
    rw [h2]; grind
  have e2 : a * B + x = x + B * z + s2 * (B * (a / s2)) := by
    have := Nat.div_add_mod a s2
    rw [← ha, ← hz] at this
    have h2 : a * B = (s2 * (a / s2) + z) * B := by rw [this]
    rw [h2]; grind
  rw [e1, e2, Nat.add_mul_div_left _ _ hs, Nat.add_mul_div_left _ _ hs, Nat.add_mul_mod_self_left, Nat.mod_eq_of_lt]
  rw [Nat.div_lt_iff_lt_mul hs]
  have : B * (z + 1) ≤ B * s2 := Nat.mul_le_mul_left _ hzs
  rw [Nat.mul_add] at this
  omega
theorem pow_dvd32 {s : Nat} (hs : s < 32) : 2 ^ s ∣ B32 := by
  rw [show B32 = 2 ^ 32 from rfl]; exact Nat.pow_dvd_pow 2 (by omega)
theorem low_drop {l : List Nat} {s m : Nat} (hs : s < 32) : val B32 (l.drop m) % 2 ^ s = l.getD m 0 % 2 ^ s := by
  by_cases hm : m < l.length
  · rw [val_drop_succ B32 l m hm]
    obtain ⟨c, hc⟩ := pow_dvd32 hs
    rw [hc, Nat.mul_assoc, Nat.add_mul_mod_self_left]
  · rw [List.drop_eq_nil_of_le (by omega), List.getD_eq_getElem?_getD, List.getElem?_eq_none (by omega)]; rfl

set_option maxHeartbeats 2000000 in
theorem shiftDown_any (ao : Option Addr) (n cap : Nat) (l : List Nat) (s : Nat) (w : World) (R : Row .u32 B32 w ao n cap l) (hn : n ≤ 40) (hs : s < 32) :
    Calls Try.prog 59 #[.slice ao n cap, .int .i64 s] w fun e w' => ∃ g L, e = .returned (.slice (some ⟨g, 0, none⟩) n n) ∧ (∃ cur, Win .u32 56 w' g 0 n cur L) ∧ Dg B32 L ∧ val B32 L = val B32 l / 2 ^ s ∧ Below w.heap.size w w' := by
  have HR := hid R
  have HL := hid R.len
  have hmx := R.most
  have hft := R.fits
  unfold maxLen at hmx
  clear R
  have hmk := fun wx => run_make_row' (P := Try.prog) 22 56 (.int .u32 0) 4 Try.underlying22 info_u32 rfl .i64 .i64 n (by omega) (by omega) wx
  go_enter Try.func59, Try.ntmps59
  go_wp2
  have hW0 := made_win w .u32 56 n
  have hbm := Ba w (.cells (madeCells #[.int .u32 0] n) 56)
  obtain ⟨g, hg⟩ : ∃ g, g = w.heap.size := ⟨_, rfl⟩
  rw [← hg] at hW0
  generalize hWW : w.alloc (.cells (madeCells #[.int .u32 0] n) 56) = W1 at *
  generalize madeCells #[.int .u32 0] n = cur at *
  have HW0 := hid hW0
  have HBm := hid hbm
  have HG := hid hg
  rw [← hg]
  clear hmk hWW hW0 hbm hg
  go_loopw [6, 7] (fun t i wr => ∃ m a : Nat, ∃ q : List Nat, m ≤ n ∧ i = .int .i64 ((m : Int) - 1) ∧ t = .int .u32 a ∧ a < 4294967296 ∧ Hid (a = l.getD m 0 ∧ q.length = n - m ∧ Dg B32 q ∧ val B32 q = val B32 (l.drop m) / 2 ^ s ∧ Onto .u32 56 g 0 n W1 wr cur (List.replicate m 0 ++ q))) (fun _ i _ => (intOf i + 1).toNat)
  case atStart => exact ⟨n, 0, [], Nat.le_refl _, rfl, rfl, by omega, by rw [List.getD_eq_getElem?_getD, List.getElem?_eq_none (by rw [HL.out]; omega)]; rfl, by simp, Dg.nil _, by rw [List.drop_eq_nil_of_le (by rw [HL.out]; omega)]; simp [val], by
    rw [List.append_nil]; exact HW0.out.onto⟩
  case round =>
    obtain ⟨m, a, q, hm, rfl, rfl, ha, hI⟩ := hrel
    by_cases hz : m = 0
    · subst hz
      obtain ⟨h0, h1, h2, h3, h4⟩ := hI.out
      have H2 := hid h2
      have H3 := hid h3
      have H4 := hid h4
      clear h0 h1 h2 h3 h4
      go_wp2
      go_ret
      refine ⟨g, q, rfl, by simpa using H4.out.win, H2.out, by simpa using H3.out, HBm.out.trans (H4.out.below (by rw [HG.out]; exact Nat.le_refl _))⟩
    · obtain ⟨p, rfl⟩ : ∃ p, m = p + 1 := ⟨m - 1, by omega⟩
      obtain ⟨b, o, rfl, hl, hcc⟩ := HR.out.rd.some (by rw [HL.out]; omega)
      obtain ⟨x, hx⟩ : ∃ x, x = l.getD p 0 := ⟨_, rfl⟩
      have hxb : x < B32 := by rw [hx]; exact HR.out.dg.getD _ (by rw [HL.out]; omega)
      have hxb2 : x < 4294967296 := hxb
      have hcx : wr.cell? ⟨b, o + p, none⟩ = some (.int .u32 x) := by
        rw [hI.out.2.2.2.2.other (by rw [HG.out]; omega), HBm.out.cell (p := ⟨b, o + p, none⟩) hl, hcc p (by rw [HL.out]; omega), hx]
      have hcm : wr.cell? ⟨g, p, none⟩ = some (.int .u32 0) := by
        have := hI.out.2.2.2.2.cell (i := p) (by omega)
        rw [getD_append_left (by simp), getD_zeros] at this
        simpa using this
      have hf1 : wr.frozen? ⟨g, p, none⟩ = false := hI.out.2.2.2.2.frozen _
      have HX := hid hx
      have hor := or_join a x ha hxb2
      obtain ⟨z, hzz⟩ : ∃ z, z = a * 4294967296 + x := ⟨_, rfl⟩
      rw [← hzz] at hor
      have hzb : z < 18446744073709551616 := by omega
      obtain ⟨t, ht⟩ : ∃ t, t = z / 2 ^ s := ⟨_, rfl⟩
      have htz : t ≤ z := by rw [ht]; exact Nat.div_le_self _ _
      have hshr : (z : Int) / 2 ^ s = (t : Int) := by rw [ht]; simp
      obtain ⟨r, hr⟩ : ∃ r, r = t % 4294967296 := ⟨_, rfl⟩
      have hmod : (t : Int) % 4294967296 = (r : Int) := by omega
      have hrb : r < B32 := by rw [hr]; exact Nat.mod_lt _ (by decide)
      have HRR : Hid (r = (a * B32 + x) / 2 ^ s % B32) := by rw [hr, ht, hzz]; rfl
      have HRB := hid hrb
      clear hcc hx ht hzz hr hrb
      go_wp2
      obtain ⟨h0, h1, h2, h3, h4⟩ := hI.out
      refine ⟨⟨p, x, r :: q, by omega, rfl, rfl, hxb2, HX.out, by simp [h1]; omega, ?_, ?_, ?_⟩, by simp [intOf] <;> omega⟩
      · exact fun y hy => by rcases List.mem_cons.1 hy with rfl | hy; exact HRB.out; exact h2 y hy
      · rw [val_cons, h3, HRR.out, val_drop_succ B32 l p (by rw [HL.out]; omega), ← HX.out]
        exact downStep (pow_dvd32 hs) (Nat.pow_pos (by decide)) (by rw [h0]; exact low_drop hs) hxb
      · have h5 := h4.store (i := p) (by omega) r
        rw [Nat.zero_add] at h5
        have e1 : (List.replicate (p + 1) 0 ++ q).set p r = List.replicate p 0 ++ r :: q := by
          rw [List.replicate_succ', List.append_assoc, List.set_append, if_neg (by simp), List.length_replicate, Nat.sub_self]; rfl
        rw [e1] at h5
        exact h5

end Go.Proofs.Ytaenegcnobindab
