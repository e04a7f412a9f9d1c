/-
  Walk: ArithFull.
-/
import Derived.Test.YtdekkieajffblaaArg
import Derived.Test.YtdekkieajffblaaAW1
import Derived.Deep.Slices
set_option linter.unusedVariables false
set_option linter.unusedSimpArgs false
set_option maxRecDepth 100000
namespace Go.Proofs.Ytdekkieajffblaa
open Go.RowKit

theorem boxrow_on {W wx wy : World} {p b i j : Nat} {a0 a1 b0 b1 : Value}
    (h : wx.cell? ⟨p, 0, none⟩ = some a0 ∧ wx.cell? ⟨p, 1, none⟩ = some a1 ∧ wx.cell? ⟨b, i, none⟩ = some b0 ∧ wx.cell? ⟨b, j, none⟩ = some b1 ∧ Below W.heap.size W wx) (hb : Below wx.heap.size wx wy) :
    wy.cell? ⟨p, 0, none⟩ = some a0 ∧ wy.cell? ⟨p, 1, none⟩ = some a1 ∧ wy.cell? ⟨b, i, none⟩ = some b0 ∧ wy.cell? ⟨b, j, none⟩ = some b1 ∧ Below W.heap.size W wy := by
  obtain ⟨h1, h2, h3, h4, h7⟩ := h
  exact ⟨(hb.cell (p := ⟨p, 0, none⟩) (cell_lt h1)).trans h1, (hb.cell (p := ⟨p, 1, none⟩) (cell_lt h1)).trans h2, (hb.cell (p := ⟨b, i, none⟩) (cell_lt h3)).trans h3, (hb.cell (p := ⟨b, j, none⟩) (cell_lt h4)).trans h4, Bt h7 hb⟩
theorem boxrow_bel {W wx : World} {p b i j : Nat} {a0 a1 b0 b1 : Value}
    (h : wx.cell? ⟨p, 0, none⟩ = some a0 ∧ wx.cell? ⟨p, 1, none⟩ = some a1 ∧ wx.cell? ⟨b, i, none⟩ = some b0 ∧ wx.cell? ⟨b, j, none⟩ = some b1 ∧ Below W.heap.size W wx) : Below W.heap.size W wx := h.2.2.2.2
theorem need_le {z : Int} (hb : ¬ Big z.natAbs) : needZ z ≤ 42 := by
  unfold needZ
  split
  · omega
  · have := mg_len40 hb; omega
theorem lay_fits {os : List Ob} {N z : Int} (h : needZ z ≤ N - (usedL os : Nat)) : (layM os N z).2 = 0 := by
  rw [layM_is]
  split
  · rfl
  · rw [if_neg (by omega)]
theorem layM_u (os : List Ob) (N z : Int) : U64 (layM os N z).1 := by
  rw [layM_is]
  split
  · exact wordR_rng _ _ _
  · split
    · unfold U64; omega
    · exact wordR_rng _ _ _
set_option maxHeartbeats 8000000 in
theorem arithLays_walk (ao : Option Addr) (n cap : Nat) (l : List (Bool × List Nat)) (w : World) (R : ZRow w ao n cap l) :
    Calls Try.prog 4 #[.slice ao n cap] w fun e w' => e = .returned (.bool true) ∧ Below w.heap.size w w' := by
  have hf := R.fits
  have hmx := R.most
  have hln := R.len
  unfold maxLen at hmx
  have HR := hid R
  have CA := hid (fun W : World => arawake_any W)
  clear R
  by_cases h30 : n ≤ 30
  · have CG := hid (zgood_any ao n cap l w HR.out (by omega))
    by_cases hg : l.all goodZ = true
    · rw [hg] at CG
      have HG := hid hg
      clear hg
      go_enter Try.func4, Try.ntmps4
      go_wp2_with fail
      (with_reducible refine CG.out.mono ?_)
      rintro e W1 ⟨rfl, b1⟩
      have HB1 := hid b1
      clear b1 CG
      go_wp2_with fail
      (with_reducible refine (pnew_ok 5000 (by omega) (by omega) W1).mono ?_)
      rintro e W2 ⟨v, F, rfl, hP, b2⟩
      have HP2 := hid hP
      have HB2 := hid b2
      obtain ⟨gh, rfl⟩ := hP.ptr
      clear hP b2
      go_wp2_with fail
      go_loopw [5] (fun i wr => ∃ q : Nat, q ≤ n ∧ i = .int .i64 q ∧ Hid (∃ os F, PH W1.heap.size (.pointer (some ⟨gh, 0, none⟩)) 5000 (wordsL os) F wr ∧ OsOk os ∧ AllBig os ∧ usedL os ≤ 42 * q ∧ Below W1.heap.size W1 wr)) (fun i _ => n - (intOf i).toNat)
      case atStart => exact ⟨0, Nat.zero_le _, rfl, [], F, HP2.out, os_nil, all_nil, Nat.le_refl _, HB2.out⟩
      case round =>
        obtain ⟨q, hq, rfl, hI⟩ := hrel
        obtain ⟨os, Fq, hP, hO, hA, hU, hB⟩ := hI.out
        have HP := hid hP
        have HO := hid hO
        have HA := hid hA
        have HBq := hid hB
        have HU := hid hU
        have HBw := hid (HB1.out.trans (hB.mono HB1.out.size))
        clear hI hP hO hA hB hU
        by_cases hlt : q < n
        · obtain ⟨b, o, rfl, hlb, hc⟩ := (HR.out.below HB1.out).some (by omega)
          obtain ⟨c0, a, m, c, c1, hrow⟩ := hc q hlt
          have hgz : goodZ (l.getD q default) = true := List.all_eq_true.1 HG.out _ (by rw [List.getD_eq_getElem?_getD, List.getElem?_eq_getElem (by omega)]; exact List.getElem_mem _)
          obtain ⟨⟨s, lm⟩, hx⟩ : ∃ x, x = l.getD q default := ⟨_, rfl⟩
          rw [← hx] at c0 hrow hgz
          have c0 : W1.cell? ⟨b, o + q * 2, none⟩ = some (.bool s) := c0
          have hrow : Row .u32 B32 W1 a m c lm := hrow
          have hint : IsInt W1 (.agg #[.bool s, .slice a m c]) (sgn s (val B32 lm)) := ⟨s, lm, ⟨a, m, c, rfl, hrow⟩, hgz, rfl⟩
          obtain ⟨z, hz⟩ : ∃ z, z = sgn s (val B32 lm) := ⟨_, rfl⟩
          rw [← hz] at hint
          have hsmall : ¬ Big z.natAbs := hint.parts.2.2.1
          have hn1 := need_nn z
          have hn2 := need_le hsmall
          have hU := HU.out
          have hfit := lay_fits (os := os) (N := 5000) (z := z) (by omega)
          have hnum := numM_lay (os := os) (N := 5000) (z := z) (by omega) hfit
          have hused := lay_used os 5000 z hfit
          have HC : Hid (∀ X, Below W1.heap.size W1 X → X.cell? ⟨b, o + q * 2, none⟩ = some (.bool s) ∧ X.cell? ⟨b, o + q * 2 + 1, none⟩ = some (.slice a m c) ∧ IsInt X (.agg #[.bool s, .slice a m c]) z) := fun X hX => ⟨(hX.cell (p := ⟨b, o + q * 2, none⟩) hlb).trans c0, (hX.cell (p := ⟨b, o + q * 2 + 1, none⟩) hlb).trans c1, hint.below hX⟩
          have HI := hid (HC.out wr HBq.out).2.2
          have CU : Hid (Calls Try.prog 15 #[.pointer (some ⟨gh, 0, none⟩)] wr fun e w' => e = .returned (.int .i64 (usedL os : Nat)) ∧ Below wr.heap.size wr w') := by
            have := pused_any wr HP.out
            rw [wordsL_length] at this
            exact this
          have CL : Hid (∀ W, Below wr.heap.size wr W → Calls Try.prog 16 #[.pointer (some ⟨gh, 0, none⟩), .agg #[.bool s, .slice a m c]] W fun e w' => e = .returned (.tuple #[.int .u64 (layM os 5000 z).1, .int .i64 0]) ∧ PPost W1.heap.size (.pointer (some ⟨gh, 0, none⟩)) 5000 Fq wr (wordsL (layO os 5000 z)) w') := fun W hW => by
            have := alay_any HO.out _ z W (HP.out.onb hW) (HI.out.below hW) (Nat.le_trans HBq.out.size hW.size)
            rw [hfit] at this
            refine this.mono ?_
            rintro e w' ⟨rfl, hp⟩
            exact ⟨rfl, PPost.front hW hp⟩
          have HO' := hid (layO_ok HO.out 5000 z)
          have HA' := hid (layO_all HA.out 5000 hsmall)
          have HU' : Hid (usedL (layO os 5000 z) ≤ 42 * (q + 1)) := by unfold Hid; omega
          have HUS := hid hused
          have hwu := layM_u os 5000 z
          obtain ⟨pw, hpw⟩ : ∃ x, x = (layM os 5000 z).1 := ⟨_, rfl⟩
          obtain ⟨os', hos'⟩ : ∃ x, x = layO os 5000 z := ⟨_, rfl⟩
          rw [← hpw] at CL hnum hwu
          rw [← hos'] at CL hnum HO' HA' HU' HUS
          have CNm : Hid (∀ (F' : Nat → Prop) W, PH W1.heap.size (.pointer (some ⟨gh, 0, none⟩)) 5000 (wordsL os') F' W → Calls Try.prog 17 #[.pointer (some ⟨gh, 0, none⟩), .int .u64 pw] W fun e w' => ∃ s ao n cap, e = .returned (.tuple #[.agg #[.bool s, .slice ao n cap], .bool true]) ∧ IsInt w' (.agg #[.bool s, .slice ao n cap]) z ∧ Below W.heap.size W w') := fun F' W h => by
            have := anumber_any HO'.out HA'.out pw hwu W h
            rw [hnum] at this
            exact this
          obtain ⟨u0, hu0⟩ : ∃ x, x = usedL os := ⟨_, rfl⟩
          rw [← hu0] at CU HUS
          have hu0b : u0 ≤ 1260 := by omega
          obtain ⟨nz, hnz⟩ : ∃ x, x = needZ z := ⟨_, rfl⟩
          rw [← hnz] at hn1 hn2 HUS
          have HNZ := hid hnz
          have CU2 : Hid (∀ (F' : Nat → Prop) W, PH W1.heap.size (.pointer (some ⟨gh, 0, none⟩)) 5000 (wordsL os') F' W → Calls Try.prog 15 #[.pointer (some ⟨gh, 0, none⟩)] W fun e w' => e = .returned (.int .i64 ((u0 : Int) + nz)) ∧ Below W.heap.size W w') := fun F' W h => by
            have := pused_any W h
            rw [wordsL_length, HUS.out] at this
            exact this
          have CND : Hid (∀ W, Below wr.heap.size wr W → Calls Try.prog 12 #[.agg #[.bool s, .slice a m c]] W fun e w' => e = .returned (.int .i64 nz) ∧ Below W.heap.size W w') := fun W h => by
            have := aneed_any _ z W (HI.out.below h)
            rw [← HNZ.out] at this
            exact this
          clear hc hx hrow hint hz hsmall hU hfit hnum hused hpw hos' hu0 hnz hgz hwu c0 c1
          go_wp2_with fail
          (with_reducible refine CU.out.mono ?_)
          rintro e V1 ⟨rfl, t1⟩
          have HT1 := hid t1
          obtain ⟨c0, c1, _⟩ := HC.out V1 (HBq.out.trans (t1.mono HBq.out.size))
          clear t1
          go_wp2_with fail
          (with_reducible refine (CL.out V1 HT1.out).mono ?_)
          rintro e V2 ⟨rfl, hp⟩
          have HV2 := hid (HBq.out.trans (PPost.below HP.out hp HBq.out.size))
          obtain ⟨F2, hp2, _, _⟩ := hp
          have HP2' := hid hp2
          clear c0 c1 hp2
          go_wp2_with fail
          (with_reducible refine (CNm.out F2 V2 HP2'.out).mono ?_)
          rintro e V3 ⟨s3, a3, n3, c3, rfl, i3, t3⟩
          have u3 := Ba V3 (.cells #[.bool s3, .slice a3 n3 c3] 24)
          have y3 := (Box.new 24 V3 s3 a3 n3 c3).c
          have t3' := Bt t3 u3
          have I3 := hid (i3.below u3)
          have HP3 := hid (HP2'.out.onb t3')
          have HV3 := hid (HV2.out.trans (t3'.mono HV2.out.size))
          obtain ⟨k0, k1, hI4⟩ := HC.out _ HV3.out
          have I4 := hid hI4
          clear i3 t3 u3 t3' HP2' HV2 hI4
          go_wp2_with fail
          obtain ⟨gx, hgx⟩ : ∃ g, g = V3.heap.size := ⟨_, rfl⟩
          rw [← hgx] at y3 ⊢
          generalize V3.alloc (.cells #[.bool s3, .slice a3 n3 c3] 24) = W at *
          clear hgx
          have hS0 : W.cell? ⟨gx, 0, none⟩ = some (.bool s3) ∧ W.cell? ⟨gx, 1, none⟩ = some (.slice a3 n3 c3) ∧ W.cell? ⟨b, o + q * 2, none⟩ = some (.bool s) ∧ W.cell? ⟨b, o + q * 2 + 1, none⟩ = some (.slice a m c) ∧ Below W.heap.size W W := ⟨y3.1, y3.2, k0, k1, Below.refl _ _⟩
          have HS0 := hid hS0
          have CND2 : Hid (∀ X, Below W.heap.size W X → Calls Try.prog 12 #[.agg #[.bool s, .slice a m c]] X fun e w' => e = .returned (.int .i64 nz) ∧ Below X.heap.size X w') := fun X h => by
            have := aneed_any _ z X (I4.out.below h)
            rw [← HNZ.out] at this
            exact this
          clear y3 k0 k1 hS0
          go_region_held3 (fun wx => wx.cell? ⟨gx, 0, none⟩ = some (.bool s3) ∧ wx.cell? ⟨gx, 1, none⟩ = some (.slice a3 n3 c3) ∧ wx.cell? ⟨b, o + q * 2, none⟩ = some (.bool s) ∧ wx.cell? ⟨b, o + q * 2 + 1, none⟩ = some (.slice a m c) ∧ Below W.heap.size W wx)
            (first | exact boxrow_on HS0.out (Bd W 1) | exact boxrow_on (by assumption) (by assumption))
            (first
              | (go_at_call 11; (with_reducible refine (zsame_true _ _ z _ ?_ ?_).mono ?_); (exact I3.out.below (boxrow_bel (p := gx) (b := b) (i := o + q * 2) (j := o + q * 2 + 1) (a0 := .bool s3) (a1 := .slice a3 n3 c3) (b0 := .bool s) (b1 := .slice a m c) (by assumption))); (exact I4.out.below (boxrow_bel (p := gx) (b := b) (i := o + q * 2) (j := o + q * 2 + 1) (a0 := .bool s3) (a1 := .slice a3 n3 c3) (b0 := .bool s) (b1 := .slice a m c) (by assumption))); rintro e wa ⟨rfl, ba⟩)
              | (go_at_call 15; (with_reducible refine (CU2.out F2 _ (HP3.out.onb ?_)).mono ?_); (exact boxrow_bel (p := gx) (b := b) (i := o + q * 2) (j := o + q * 2 + 1) (a0 := .bool s3) (a1 := .slice a3 n3 c3) (b0 := .bool s) (b1 := .slice a m c) (by assumption)); rintro e wb ⟨rfl, bb⟩)
              | (go_at_call 12; (with_reducible refine (CND2.out _ ?_).mono ?_); (exact boxrow_bel (p := gx) (b := b) (i := o + q * 2) (j := o + q * 2 + 1) (a0 := .bool s3) (a1 := .slice a3 n3 c3) (b0 := .bool s) (b1 := .slice a m c) (by assumption)); rintro e wc ⟨rfl, bc⟩))
          rename_i hHeld
          have HBW := hid (boxrow_bel hHeld)
          clear hHeld ba bb bc
          have e77 : (IntKind.i64.wrap ((u0 : Int) + nz - (u0 : Int)) != nz) = false := by
            have e : (u0 : Int) + nz - (u0 : Int) = nz := by omega
            rw [e, IntKind.wrap_i64]; simp; omega
          go_wp2_with fail
          refine ⟨⟨q + 1, by omega, by go_num, os', F2, HP3.out.onb HBW.out, HO'.out, HA'.out, HU'.out, HV3.out.trans (HBW.out.mono HV3.out.size)⟩, by simp [intOf] <;> omega⟩
        · obtain rfl : q = n := by omega
          go_wp2_with (go_at_call 8; (with_reducible refine (CA.out _).mono ?_); rintro e We ⟨rfl, ve⟩; have HBe := hid (Bt HBw.out ve); clear ve)
          go_ret
          exact ⟨rfl, HBe.out⟩
    · have hg' : l.all goodZ = false := by cases h : l.all goodZ <;> simp_all only [not_true, not_false_iff]
      rw [hg'] at CG
      clear hg hg'
      go_enter Try.func4, Try.ntmps4
      go_wp2_with (first
        | (go_at_call 7; (with_reducible refine CG.out.mono ?_); rintro e W1 ⟨rfl, v1⟩; have HB2 := hid v1; clear v1)
        | (go_at_call 8; (with_reducible refine (CA.out _).mono ?_); rintro e W2 ⟨rfl, v2⟩; have HB3 := hid (Bt HB2.out v2); clear v2))
      go_ret
      exact ⟨rfl, HB3.out⟩
  · go_enter Try.func4, Try.ntmps4
    go_wp2_with (go_at_call 8; (with_reducible refine (CA.out _).mono ?_); rintro e W2 ⟨rfl, v2⟩; have HB3 := hid v2; clear v2)
    go_ret
    exact ⟨rfl, HB3.out⟩
end Go.Proofs.Ytdekkieajffblaa

set_option linter.unusedVariables false
set_option linter.unusedSimpArgs false
set_option maxRecDepth 100000
namespace Go.Proofs.Ytdekkieajffblaa
open Go.RowKit

theorem need_zero : needZ 0 = 0 := by decide
theorem bigZ_err {z : Int} (h : (bigZ z).2 ≠ 0) : (bigZ z).1 = 0 ∧ (bigZ z).2 = 10 := by
  unfold bigZ at h ⊢
  split
  · exact ⟨rfl, rfl⟩
  · rename_i h1
    rw [if_neg h1] at h
    exact absurd rfl h
theorem reck_err {op a b : Int} (h : (reckM op a b).2 ≠ 0) : (reckM op a b).1 = 0 ∧ (reckM op a b).2 ≠ 3 := by
  unfold reckM at h ⊢
  by_cases h1 : op = 1
  · rw [if_pos h1] at h ⊢
    obtain ⟨k1, k2⟩ := bigZ_err h
    exact ⟨k1, by rw [k2]; decide⟩
  rw [if_neg h1] at h ⊢
  by_cases h2 : op = 2
  · rw [if_pos h2] at h ⊢
    obtain ⟨k1, k2⟩ := bigZ_err h
    exact ⟨k1, by rw [k2]; decide⟩
  rw [if_neg h2] at h ⊢
  by_cases h3 : op = 3
  · rw [if_pos h3] at h ⊢
    obtain ⟨k1, k2⟩ := bigZ_err h
    exact ⟨k1, by rw [k2]; decide⟩
  rw [if_neg h3] at h ⊢
  by_cases h0 : b = 0
  · simp only [h0, if_pos]
    split
    · exact ⟨rfl, by decide⟩
    · split
      · exact ⟨rfl, by decide⟩
      · split
        · exact ⟨rfl, by decide⟩
        · exact ⟨rfl, by decide⟩
  · simp only [h0, if_false] at h ⊢
    by_cases h4 : op = 4
    · rw [if_pos h4] at h; exact absurd rfl h
    rw [if_neg h4] at h ⊢
    by_cases h5 : op = 5
    · rw [if_pos h5] at h; exact absurd rfl h
    rw [if_neg h5] at h ⊢
    by_cases h6 : op = 6
    · rw [if_pos h6] at h; exact absurd rfl h
    rw [if_neg h6]
    exact ⟨rfl, by decide⟩
theorem bothZ_err (os : List Ob) (p q : Int) : (bothZ os p q).2.2 = 0 ∨ (bothZ os p q).2.2 = 70 := by
  unfold bothZ
  split
  · exact .inl rfl
  · exact .inr rfl
theorem res_err {os : List Ob} {op p q : Int} (h : (resZ os op p q).2 ≠ 0) : (resZ os op p q).1 = 0 ∧ (resZ os op p q).2 ≠ 3 := by
  unfold resZ at h ⊢
  by_cases h1 : op < 1 ∨ 6 < op
  · rw [if_pos h1]; exact ⟨rfl, by decide⟩
  rw [if_neg h1] at h ⊢
  by_cases h2 : (bothZ os p q).2.2 = 0
  · rw [if_pos h2] at h ⊢
    exact reck_err h
  · rw [if_neg h2]
    refine ⟨rfl, ?_⟩
    rcases bothZ_err os p q with e | e
    · exact absurd e h2
    · show (bothZ os p q).2.2 ≠ 3
      rw [e]; decide
theorem do_ok {os : List Ob} {N op p q : Int} (h : (doM os N op p q).2 = 0) : ((usedL (doO os N op p q) : Nat) : Int) = (usedL os : Nat) + needZ (resZ os op p q).1 := by
  unfold doM at h
  unfold doO
  by_cases h1 : (resZ os op p q).2 = 0
  · rw [if_pos h1] at h ⊢
    exact lay_used _ _ _ h
  · rw [if_neg h1] at h
    exact absurd h h1
theorem do_no {os : List Ob} {N op p q : Int} (hu : ((usedL os : Nat) : Int) ≤ N) (h : (doM os N op p q).2 ≠ 0) : doO os N op p q = os ∧ ((doM os N op p q).2 = 3 ↔ N - (usedL os : Nat) < needZ (resZ os op p q).1) := by
  unfold doM at h ⊢
  unfold doO
  by_cases h1 : (resZ os op p q).2 = 0
  · rw [if_pos h1] at h ⊢
    rw [if_pos h1]
    refine ⟨layM_err h, ?_⟩
    rw [layM_is] at h ⊢
    by_cases h2 : fixB (resZ os op p q).1 = true
    · rw [if_pos h2] at h; exact absurd rfl h
    · rw [if_neg h2] at h ⊢
      by_cases h3 : N - (usedL os : Nat) < needZ (resZ os op p q).1
      · rw [if_pos h3]; exact ⟨fun _ => h3, fun _ => rfl⟩
      · rw [if_neg h3] at h; exact absurd rfl h
  · rw [if_neg h1, if_neg h1]
    obtain ⟨k1, k2⟩ := res_err h1
    refine ⟨rfl, fun e => absurd e k2, fun e => ?_⟩
    rw [k1, need_zero] at e
    omega
theorem lay_no {os : List Ob} {N z : Int} (h : (layM os N z).2 ≠ 0) : N - (usedL os : Nat) < needZ z := by
  rw [layM_is] at h
  split at h
  · exact absurd rfl h
  · split at h
    · assumption
    · exact absurd rfl h
theorem lay_le {os : List Ob} {N z : Int} (hu : ((usedL os : Nat) : Int) ≤ N) : ((usedL (layO os N z) : Nat) : Int) ≤ N := by
  by_cases h : (layM os N z).2 = 0
  · have := lay_used os N z h
    rw [layM_is] at h
    split at h
    · rename_i h1
      have e : needZ z = 0 := by unfold needZ; rw [if_pos h1]
      omega
    · split at h
      · cases h
      · omega
  · rw [layM_err h]; exact hu
theorem reck_small {op a b : Int} (hb : ¬ Big b.natAbs) (ha : ¬ Big a.natAbs) : ¬ Big (reckM op a b).1.natAbs := by
  have h00 : ¬ Big (0 : Int).natAbs := not_big_64 _ (by decide)
  have hz : ∀ z, ¬ Big (bigZ z).1.natAbs := fun z => by
    unfold bigZ
    split
    · exact h00
    · rename_i h
      exact fun e => h ((tooB_iff z).2 e)
  unfold reckM
  split
  · exact hz _
  split
  · exact hz _
  split
  · exact hz _
  by_cases h0 : b = 0
  · simp only [h0, if_pos]
    split
    · exact h00
    · split
      · exact h00
      · split
        · exact h00
        · exact h00
  · simp only [h0, if_false]
    split
    · refine not_big_le (v := a.natAbs) ?_ ha
      show (a.tdiv b).natAbs ≤ _
      rw [Int.natAbs_tdiv]; exact Nat.div_le_self _ _
    · split
      · refine not_big_le (v := b.natAbs) ?_ hb
        have := tmod_abs (a := a) h0
        show (a.tmod b).natAbs ≤ _
        omega
      · split
        · show ¬ Big (modZ a b).natAbs
          unfold modZ
          split
          · rename_i h
            exact mod_small h0 hb h.2
          · refine not_big_le (v := b.natAbs) ?_ hb
            have := tmod_abs (a := a) h0
            omega
        · exact h00
theorem res_small {os : List Ob} (ha : AllBig os) (op p q : Int) : ¬ Big (resZ os op p q).1.natAbs := by
  have h00 : ¬ Big (0 : Int).natAbs := not_big_64 _ (by decide)
  have hn : ∀ p, ¬ Big ((numM os p).getD 0).natAbs := fun p => by
    cases h : numM os p with
    | none => exact h00
    | some z => exact numM_small ha h
  unfold resZ
  split
  · exact h00
  split
  · rename_i h
    refine reck_small ?_ ?_
    · unfold bothZ; split
      · exact hn q
      · exact h00
    · unfold bothZ; split
      · exact hn p
      · exact h00
  · exact h00
theorem doO_ok {os : List Ob} (h : OsOk os) (N op p q : Int) : OsOk (doO os N op p q) := by
  unfold doO
  split
  · exact layO_ok h _ _
  · exact h
theorem doO_all {os : List Ob} (h : AllBig os) (N op p q : Int) : AllBig (doO os N op p q) := by
  unfold doO
  split
  · exact layO_all h N (res_small h op p q)
  · exact h
end Go.Proofs.Ytdekkieajffblaa

set_option linter.unusedVariables false
set_option linter.unusedSimpArgs false
set_option maxRecDepth 100000
namespace Go.Proofs.Ytdekkieajffblaa
open Go.ChangeShapes Go.WideShapes Go.ChangeAt Go.RowKit Go.Joins Go.Deep

theorem acellsB : Try.prog.cellsOf 4 = 1 := by kernel_rfl
theorem acellsI : Try.prog.cellsOf 3 = 1 := by kernel_rfl
theorem acellsW : Try.prog.cellsOf 39 = 1 := by kernel_rfl
theorem acellsU : Try.prog.cellsOf 22 = 1 := by kernel_rfl
theorem aaddp (b o k : Nat) : Addr.add ⟨b, o, none⟩ k = ⟨b, o + k, none⟩ := by
  unfold Addr.add
  by_cases h : k = 0
  · subst h; simp
  · rw [if_neg h]
theorem aplain {W : World} {a : Addr} {v : Value} (h : W.cell? a = some v) : ∃ b o, a = ⟨b, o, none⟩ ∧ b < W.heap.size := by
  obtain ⟨bb, o, sp⟩ := a
  have hsp : sp = none := by
    cases sp with
    | none => rfl
    | some k =>
      exfalso
      simp [World.cell?] at h
      split at h <;> simp_all
  subst hsp
  exact ⟨bb, o, rfl, World.block_lt_of_cell? W ⟨bb, o, none⟩ h⟩
theorem aadd0 (a : Addr) : a.add 0 = a := by simp [Addr.add]
section
variable {H : Type} {enc : TypeId × Value → H} {W : World} {base : Nat} {spare : Nat → Bool} {held : Bool}
theorem digs_arg {fuel : Nat} {cs : List Value} {y : DataW H × List MemPlace} (h : DataW.trod enc Try.prog W base spare held fuel 22 cs = some y) : ∃ ao n cap l, cs = [.slice ao n cap] ∧ Row .u32 B32 W ao n cap l := by
  rcases open_ints Try.underlying22 Try.underlying62 (by kernel_rfl) h with ⟨hcs, _⟩ | ⟨a, len, cap, zs, hcs, _, hl, hm, hz, _, hcell, hwz⟩
  · cases hcs
    exact ⟨none, 0, 0, [], rfl, Row.nil _ _ _ _⟩
  · cases hcs
    have hzl : len ≤ zs.length := by rw [hz]; split <;> omega
    have hlen : ((zs.take len).map Int.toNat).length = len := by rw [List.length_map, List.length_take, Nat.min_eq_left hzl]
    refine ⟨some a, len, cap, (zs.take len).map Int.toNat, rfl, hlen, hl, hm, fun h => (by cases h), ?_, ?_⟩
    · intro x hx
      obtain ⟨z, hz', rfl⟩ := List.mem_map.1 hx
      have := wf_u32 (hwz z (List.mem_of_mem_take hz'))
      unfold B32; omega
    · by_cases h0 : len = 0
      · subst h0; exact .inl (by simp)
      · have hc0 := hcell 0 (by omega)
        obtain ⟨bb, o, sp⟩ := a
        have hsp : sp = none := by
          cases sp with
          | none => rfl
          | some k =>
            exfalso
            simp [Addr.add, World.cell?] at hc0
            split at hc0 <;> simp_all
        subst hsp
        have hlt : bb < W.heap.size := World.block_lt_of_cell? W ⟨bb, o, none⟩ (by simpa [Addr.add] using hc0)
        refine .inr ⟨bb, o, rfl, hlt, fun i hi => ?_⟩
        rw [hlen] at hi
        have hci := hcell i (by omega)
        have h1 : W.cell? ⟨bb, o + i, none⟩ = W.cell? (Addr.add ⟨bb, o, none⟩ i) := by
          unfold Addr.add
          by_cases hi0 : i = 0
          · subst hi0; simp
          · rw [if_neg hi0]
        rw [h1, hci]
        have h2 : zs.getD i 0 = (((zs.take len).map Int.toNat).getD i 0 : Nat) := by
          rw [List.getD_eq_getElem?_getD, List.getD_eq_getElem?_getD, List.getElem?_map, List.getElem?_take, if_pos hi, List.getElem?_eq_getElem (by omega)]
          have := wf_u32 (hwz zs[i] (List.getElem_mem _))
          simp only [Option.map_some, Option.getD_some]
          omega
        rw [h2]
theorem zat_arg {n : Nat} {cs : List Value} {y : DataW H × List MemPlace} {b k : Nat} (hc : W.cells? base ⟨b, k, none⟩ 2 = some cs) (h : DataW.trod enc Try.prog W base spare held n 24 cs = some y) : ∃ x, ZAt W b k x := by
  obtain ⟨_, hlen, hcell⟩ := World.cells?_some hc
  obtain ⟨xs, m, hm, hxy, _, hxl, hf⟩ := DataW.trod_struct Try.underlying24 h
  match xs, hxl, cs, hlen with
  | [y0, y1], _, [v0, v1], _ =>
    have g0 := hf 0 _ rfl
    have g1 := hf 1 _ rfl
    simp [acellsB, acellsU] at g0 g1
    have e0 := hcell 0 (by omega)
    have e1 := hcell 1 (by omega)
    rw [aaddp] at e0 e1
    obtain ⟨z0, q0, _⟩ := DataW.trod_bool Try.underlying4 g0
    obtain ⟨ao, nk, ck, l, q3, hI⟩ := digs_arg g1
    cases q0; cases q3
    exact ⟨(z0, l), by simpa using e0, ao, nk, ck, by simpa using e1, hI⟩
theorem zs_arg {fuel : Nat} {cs : List Value} {y : DataW H × List MemPlace} (h : DataW.trod enc Try.prog W base spare held fuel 33 cs = some y) : ∃ ao n cap l, cs = [.slice ao n cap] ∧ ZRow W ao n cap l := by
  rcases open_slice Try.underlying33 h with ⟨rfl, _⟩ | ⟨a, len, cap, m, n, D, Pl, rfl, _, hl, hm, hmm, _, hx⟩
  · exact ⟨none, 0, 0, [], rfl, rfl, Nat.le_refl _, by unfold maxLen; omega, fun _ => rfl, .inl rfl⟩
  · have hlm : len ≤ m := by rw [hmm]; split <;> omega
    by_cases h0 : len = 0
    · subst h0
      exact ⟨some a, 0, cap, [], rfl, rfl, hl, hm, fun e => (by cases e), .inl rfl⟩
    · have hp : ∃ b o, a = ⟨b, o, none⟩ ∧ b < W.heap.size := by
        obtain ⟨cs', h1, _⟩ := hx 0 (by omega)
        rw [cellsInt, Nat.zero_mul, aadd0] at h1
        obtain ⟨_, hlen, hcell⟩ := World.cells?_some h1
        have := hcell 0 (by omega)
        rw [aadd0, List.getElem?_eq_getElem (by omega)] at this
        exact aplain this
      obtain ⟨b, o, rfl, hb⟩ := hp
      have each : ∀ i, i < len → ∃ d, ZAt W b (o + i * 2) d := fun i hi => by
        obtain ⟨cs', h1, h2⟩ := hx i (by omega)
        rw [cellsInt, aaddp] at h1
        exact zat_arg h1 h2
      obtain ⟨q, hq⟩ := choose_lt each
      have hget : ∀ i, i < len → ((List.range len).map q).getD i default = q i := fun i hi => by
        rw [List.getD_eq_getElem?_getD, List.getElem?_map, List.getElem?_range hi]; rfl
      refine ⟨some ⟨b, o, none⟩, len, cap, (List.range len).map q, rfl, by simp, hl, hm, fun e => (by cases e), .inr ⟨b, o, rfl, hb, fun i hi => ?_⟩⟩
      have hi' : i < len := by simpa using hi
      rw [hget i hi']; exact hq i hi'
end
theorem zs_in {H : Type} {enc : TypeId × Value → H} {W : World} {r : Reach} {b0 : Nat} {v : Value} {d : DataW H} {p : List MemPlace} {base : Nat} {spare : TypeId → Bool} {held : Bool}
    (hv : Value.okWide Try.prog W r b0 33 v) (h : DataW.Trod enc Try.prog W base spare held 33 v d p) : ∃ ao n cap l, v = .slice ao n cap ∧ ZRow W ao n cap l := by
  obtain ⟨a, len, cp, rfl⟩ := okWide_slice Try.underlying33 hv
  obtain ⟨fuel, hf⟩ := h
  obtain ⟨ao, n, cap, l, e, hR⟩ := zs_arg hf
  refine ⟨ao, n, cap, l, ?_, hR⟩
  simpa [Value.cells] using e
/-- An ask as data. -/
structure Ak where
  op : Int
  a : Int
  b : Int
  raw : Bool
  w : Int
deriving Inhabited
def AkC (d : Ak) : List Value := [.int .i64 d.op, .int .i64 d.a, .int .i64 d.b, .bool d.raw, .int .u64 d.w]
structure AkOk (d : Ak) : Prop where
  op : Z64 d.op
  a : Z64 d.a
  b : Z64 d.b
  w : U64 d.w
theorem cellsAsk : Try.prog.cellsOf 46 = 5 := by kernel_rfl
section
variable {H : Type} {enc : TypeId × Value → H} {W : World} {base : Nat} {spare : Nat → Bool} {held : Bool}
theorem ask_cells {n : Nat} {cs : List Value} {y : DataW H × List MemPlace} (hlen : cs.length = 5) (h : DataW.trod enc Try.prog W base spare held n 46 cs = some y) : ∃ d, cs = AkC d ∧ AkOk d := by
  obtain ⟨xs, m, hm, hxy, _, hxl, hf⟩ := DataW.trod_struct Try.underlying46 h
  match xs, hxl, cs, hlen with
  | [y0, y1, y2, y3, y4], _, [v0, v1, v2, v3, v4], _ =>
    have g0 := hf 0 _ rfl
    have g1 := hf 1 _ rfl
    have g2 := hf 2 _ rfl
    have g3 := hf 3 _ rfl
    have g4 := hf 4 _ rfl
    simp [acellsI, acellsB, acellsW] at g0 g1 g2 g3 g4
    obtain ⟨z0, q0, _, w0⟩ := DataW.trod_int Try.underlying3 g0
    obtain ⟨z1, q1, _, w1⟩ := DataW.trod_int Try.underlying3 g1
    obtain ⟨z2, q2, _, w2⟩ := DataW.trod_int Try.underlying3 g2
    obtain ⟨b3, q3, _⟩ := DataW.trod_bool Try.underlying4 g3
    obtain ⟨z4, q4, _, w4⟩ := DataW.trod_int Try.underlying39 g4
    cases q0; cases q1; cases q2; cases q3; cases q4
    exact ⟨⟨z0, z1, z2, b3, z4⟩, rfl, bounds_i64 w0, bounds_i64 w1, bounds_i64 w2, (by have := bounds_u64 w4; show U64 z4; unfold U64; omega)⟩
end
theorem ask_in {H : Type} {enc : TypeId × Value → H} {W : World} {r : Reach} {b0 : Nat} {v : Value} {d : DataW H} {p : List MemPlace} {base : Nat} {spare : TypeId → Bool} {held : Bool}
    (hv : Value.okWide Try.prog W r b0 46 v) (h : DataW.Trod enc Try.prog W base spare held 46 v d p) : ∃ x : Ak, v = .agg (AkC x).toArray ∧ AkOk x := by
  obtain ⟨cs, rfl, hsz⟩ := okWide_struct Try.underlying46 hv
  obtain ⟨fuel, hf⟩ := h
  obtain ⟨x, e, hd⟩ := ask_cells (cs := cs.toList) (by rw [Array.length_toList, hsz]; exact cellsAsk) (by simpa [Value.cells] using hf)
  exact ⟨x, by rw [← Array.toArray_toList (xs := cs), e], hd⟩
end Go.Proofs.Ytdekkieajffblaa

set_option linter.unusedVariables false
set_option linter.unusedSimpArgs false
set_option maxRecDepth 100000
namespace Go.Proofs.Ytdekkieajffblaa
open Go.RowKit

theorem ask2_on {W wx wy : World} {p : Nat} {a0 a1 : Value}
    (h : wx.cell? ⟨p, 0, none⟩ = some a0 ∧ wx.cell? ⟨p, 1, none⟩ = some a1 ∧ Below W.heap.size W wx) (hb : Below wx.heap.size wx wy) :
    wy.cell? ⟨p, 0, none⟩ = some a0 ∧ wy.cell? ⟨p, 1, none⟩ = some a1 ∧ Below W.heap.size W wy := by
  obtain ⟨h1, h2, h7⟩ := h
  exact ⟨(hb.cell (p := ⟨p, 0, none⟩) (cell_lt h1)).trans h1, (hb.cell (p := ⟨p, 1, none⟩) (cell_lt h1)).trans h2, Bt h7 hb⟩
theorem ask2_bel {W wx : World} {p : Nat} {a0 a1 : Value} (h : wx.cell? ⟨p, 0, none⟩ = some a0 ∧ wx.cell? ⟨p, 1, none⟩ = some a1 ∧ Below W.heap.size W wx) : Below W.heap.size W wx := h.2.2
set_option maxHeartbeats 8000000 in
theorem arithFull_walk (x : Ak) (neg : Bool) (ao : Option Addr) (n cap : Nat) (l : List Nat) (neg' : Bool) (ao' : Option Addr) (n' cap' : Nat) (l' : List Nat) (w : World) (hx : AkOk x) (R : Row .u32 B32 w ao n cap l) (R' : Row .u32 B32 w ao' n' cap' l') :
    Calls Try.prog 6 #[.agg (AkC x).toArray, .agg #[.bool neg, .slice ao n cap], .agg #[.bool neg', .slice ao' n' cap']] w fun e w' => e = .returned (.bool true) ∧ Below w.heap.size w w' := by
  obtain ⟨op, N, bb, raw, ww⟩ := x
  obtain ⟨ho, hN, _, _⟩ := hx
  have ho : Z64 op := ho
  have hN : Z64 N := hN
  unfold Z64 at ho hN
  show Calls Try.prog 6 #[.agg #[.int .i64 op, .int .i64 N, .int .i64 bb, .bool raw, .int .u64 ww], .agg #[.bool neg, .slice ao n cap], .agg #[.bool neg', .slice ao' n' cap']] w fun e w' => e = .returned (.bool true) ∧ Below w.heap.size w w'
  have q0 := Ba w (.cells #[.int .i64 op, .int .i64 N, .int .i64 bb, .bool raw, .int .u64 ww] 46)
  have hak := blk_new w #[.int .i64 op, .int .i64 N, .int .i64 bb, .bool raw, .int .u64 ww] 46
  obtain ⟨Wa, hWa⟩ : ∃ W, W = w.alloc (.cells #[.int .i64 op, .int .i64 N, .int .i64 bb, .bool raw, .int .u64 ww] 46) := ⟨_, rfl⟩
  rw [← hWa] at q0 hak
  have hsa : Wa.heap.size = w.heap.size + 1 := by rw [hWa, size_alloc]
  have q1 := Baa Wa (.cells #[.bool neg, .slice ao n cap] 24) (.cells #[.bool neg', .slice ao' n' cap'] 24)
  have x1 := (Box.new 24 Wa neg ao n cap).alloc (.cells #[.bool neg', .slice ao' n' cap'] 24)
  have x2 := Box.new 24 (Wa.alloc (.cells #[.bool neg, .slice ao n cap] 24)) neg' ao' n' cap'
  rw [size_alloc, hsa] at x2
  rw [hsa] at x1
  obtain ⟨W0, hW0⟩ : ∃ W, W = (Wa.alloc (.cells #[.bool neg, .slice ao n cap] 24)).alloc (.cells #[.bool neg', .slice ao' n' cap'] 24) := ⟨_, rfl⟩
  rw [← hW0] at q1 x1 x2
  have hak0 := (q1.block w.heap.size (by omega)).trans hak
  have d0 := blk_cell hak0 0
  have d1 := blk_cell hak0 1
  have hs0 : W0.heap.size = w.heap.size + 1 + 1 + 1 := by rw [hW0, size_alloc, size_alloc, hsa]
  have HB0 := hid (Bt q0 q1)
  have HX1 := hid x1
  have HX2 := hid x2
  have CA := hid (fun W : World => arawake_any W)
  have CG : Hid (∀ W, Below W0.heap.size W0 W → Calls Try.prog 7 #[.slice (some ⟨W.heap.size, 0, none⟩) 2 2] (W.alloc (.cells #[.bool neg, .slice ao n cap, .bool neg', .slice ao' n' cap'] 24)) fun e w' => e = .returned (.bool (goodB neg l && goodB neg' l')) ∧ Below W.heap.size W w') := fun W hW => by
    have v := Ba W (.cells #[.bool neg, .slice ao n cap, .bool neg', .slice ao' n' cap'] 24)
    refine (two_good neg neg' ao ao' n cap n' cap' l l' w _ _ _ R R' (Bt (Bt HB0.out hW) v) (blk_new W _ _)).mono ?_
    rintro e w' ⟨rfl, hb⟩
    exact ⟨rfl, Bt v hb⟩
  have HA : Hid (goodB neg l = true → IsInt w (.agg #[.bool neg, .slice ao n cap]) (sgn neg (val B32 l))) := fun g => ⟨neg, l, ⟨ao, n, cap, rfl, R⟩, g, rfl⟩
  have HB : Hid (goodB neg' l' = true → IsInt w (.agg #[.bool neg', .slice ao' n' cap']) (sgn neg' (val B32 l'))) := fun g => ⟨neg', l', ⟨ao', n', cap', rfl, R'⟩, g, rfl⟩
  obtain ⟨a, ha⟩ : ∃ a, a = sgn neg (val B32 l) := ⟨_, rfl⟩
  obtain ⟨b, hb⟩ : ∃ a, a = sgn neg' (val B32 l') := ⟨_, rfl⟩
  obtain ⟨g1, hg1⟩ : ∃ g, g = goodB neg l := ⟨_, rfl⟩
  obtain ⟨g2, hg2⟩ : ∃ g, g = goodB neg' l' := ⟨_, rfl⟩
  rw [← ha, ← hg1] at HA
  rw [← hb, ← hg2] at HB
  rw [← hg1, ← hg2] at CG
  have hWW : ((w.alloc (.cells #[.int .i64 op, .int .i64 N, .int .i64 bb, .bool raw, .int .u64 ww] 46)).alloc (.cells #[.bool neg, .slice ao n cap] 24)).alloc (.cells #[.bool neg', .slice ao' n' cap'] 24) = W0 := by rw [hW0, hWa]
  have HWW := hid hWW
  have HD : Hid (W0.cell? ⟨w.heap.size, 0, none⟩ = some (.int .i64 op) ∧ W0.cell? ⟨w.heap.size, 1, none⟩ = some (.int .i64 N) ∧ Below W0.heap.size W0 W0) := ⟨d0, d1, Below.refl _ _⟩
  clear R R' q0 q1 hak hak0 x1 x2 ha hb hg1 hg2 hWW hW0 hWa hsa hs0 d0 d1
  go_enter Try.func6, Try.ntmps6
  go_wp2_with fail
  rw [HWW.out]
  go_region_held3 (fun wx => wx.cell? ⟨w.heap.size, 0, none⟩ = some (.int .i64 op) ∧ wx.cell? ⟨w.heap.size, 1, none⟩ = some (.int .i64 N) ∧ Below W0.heap.size W0 wx)
    (first | exact ask2_on HD.out (Bd W0 1) | exact ask2_on (by assumption) (by assumption))
    (fail)
  rename_i hHeld
  have HW := hid (ask2_bel hHeld)
  clear hHeld
  have y1 := hid (HX1.out.on HW.out)
  have y2 := hid (HX2.out.on HW.out)
  have HB1 := hid (Bt HB0.out HW.out)
  have CG1 := hid (CG.out _ HW.out)
  generalize W0.drew = W1 at *
  clear HX1 HX2 HB0 HD CG HW
  by_cases hN1 : N < 1
  · go_wp2_with (go_at_call 8; (with_reducible refine (CA.out _).mono ?_); rintro e We ⟨rfl, ve⟩; have HBe := hid (Bt HB1.out ve); clear ve)
    go_ret
    exact ⟨rfl, HBe.out⟩
  by_cases hN2 : 300 < N
  · go_wp2_with (go_at_call 8; (with_reducible refine (CA.out _).mono ?_); rintro e We ⟨rfl, ve⟩; have HBe := hid (Bt HB1.out ve); clear ve)
    go_ret
    exact ⟨rfl, HBe.out⟩
  obtain ⟨c0, c1⟩ := y1.out.c
  obtain ⟨c2, c3⟩ := y2.out.c
  by_cases hg : (g1 && g2) = true
  · rw [hg] at CG1
    rw [Bool.and_eq_true] at hg
    have HA := hid (HA.out hg.1)
    have HB := hid (HB.out hg.2)
    clear hg
    go_wp2_with fail
    (with_reducible refine CG1.out.mono ?_)
    rintro e W2 ⟨rfl, v2⟩
    have z1 := hid (y1.out.on v2)
    have z2 := hid (y2.out.on v2)
    have HB2 := hid (Bt HB1.out v2)
    clear c0 c1 c2 c3 v2 y1 y2 HB1 CG1
    go_wp2_with fail
    (with_reducible refine (pnew_ok N (by omega) (by omega) W2).mono ?_)
    rintro e W3 ⟨v, F, rfl, hP, v3⟩
    have HP3 := hid hP
    have HB3 := hid v3
    obtain ⟨gh, rfl⟩ := hP.ptr
    have HL := hid z1.out.lt
    have HL2 := hid z2.out.lt
    -- what is old: cells and integers, in any world that keeps what was there
    have OLD : Hid (∀ X, Below W2.heap.size W2 X → X.cell? ⟨w.heap.size + 1, 0, none⟩ = some (.bool neg) ∧ X.cell? ⟨w.heap.size + 1, 1, none⟩ = some (.slice ao n cap) ∧ X.cell? ⟨w.heap.size + 1 + 1, 0, none⟩ = some (.bool neg') ∧ X.cell? ⟨w.heap.size + 1 + 1, 1, none⟩ = some (.slice ao' n' cap') ∧ IsInt X (.agg #[.bool neg, .slice ao n cap]) a ∧ IsInt X (.agg #[.bool neg', .slice ao' n' cap']) b ∧ Below w.heap.size w X) := fun X hX =>
      ⟨(z1.out.on hX).c.1, (z1.out.on hX).c.2, (z2.out.on hX).c.1, (z2.out.on hX).c.2, (HA.out.below HB2.out).below hX, (HB.out.below HB2.out).below hX, Bt HB2.out hX⟩
    obtain ⟨_, _, _, _, hIa, hIb, _⟩ := OLD.out W2 (Below.refl _ _)
    have hsa : ¬ Big a.natAbs := hIa.parts.2.2.1
    have hsb : ¬ Big b.natAbs := hIb.parts.2.2.1
    have hna := need_nn a
    have hnb := need_nn b
    have hna2 := need_le hsa
    have hnb2 := need_le hsb
    -- the first integer
    have CL1 : Hid (Calls Try.prog 16 #[.pointer (some ⟨gh, 0, none⟩), .agg #[.bool neg, .slice ao n cap]] W3 fun e w' => e = .returned (.tuple #[.int .u64 (layM [] N a).1, .int .i64 (layM [] N a).2]) ∧ PPost W2.heap.size (.pointer (some ⟨gh, 0, none⟩)) N F W3 (wordsL (layO [] N a)) w') := alay_any (os := []) os_nil _ a W3 HP3.out (OLD.out W3 v3).2.2.2.2.1 v3.size
    have ok1 := layO_ok os_nil N a
    have al1 := layO_all all_nil N hsa
    have le1 := lay_le (os := []) (N := N) (z := a) (by show (0 : Int) ≤ N; omega)
    have us1 : (layM [] N a).2 = 0 → ((usedL (layO [] N a) : Nat) : Int) = needZ a := fun h => by
      have := lay_used [] N a h
      rw [this]; show (0 : Int) + _ = _; omega
    have no1 : (layM [] N a).2 ≠ 0 → N < needZ a := fun h => by
      have := lay_no h
      have e : ((usedL ([] : List Ob) : Nat) : Int) = 0 := rfl
      omega
    have pu1 := layM_u [] N a
    obtain ⟨pw, hpw⟩ : ∃ p, p = (layM [] N a).1 := ⟨_, rfl⟩
    obtain ⟨e1, he1⟩ : ∃ p, p = (layM [] N a).2 := ⟨_, rfl⟩
    obtain ⟨os1, ho1⟩ : ∃ p, p = layO [] N a := ⟨_, rfl⟩
    rw [← hpw, ← he1, ← ho1] at CL1
    rw [← ho1] at ok1 al1 le1 us1
    rw [← he1] at us1 no1
    rw [← hpw] at pu1
    clear hpw he1 ho1 hIa hIb
    have HOK1 := hid ok1
    have HAL1 := hid al1
    have HUS1 := hid us1
    have HNO1 := hid no1
    have HPU1 := hid pu1
    have HLE1 := hid le1
    obtain ⟨c0, c1, c2, c3, _, _, _⟩ := OLD.out W3 v3
    clear ok1 al1 us1 no1 pu1 le1 v3 hP
    go_wp2_with fail
    (with_reducible refine CL1.out.mono ?_)
    rintro e W4 ⟨rfl, hp4⟩
    have HB4 := hid (HB3.out.trans (PPost.below HP3.out hp4 HB3.out.size))
    obtain ⟨F4, hP4, _, _⟩ := hp4
    have HP4 := hid hP4
    clear hP4 CL1 c0 c1 c2 c3 HB3 HP3
    -- the second one
    have CL2 : Hid (Calls Try.prog 16 #[.pointer (some ⟨gh, 0, none⟩), .agg #[.bool neg', .slice ao' n' cap']] W4 fun e w' => e = .returned (.tuple #[.int .u64 (layM os1 N b).1, .int .i64 (layM os1 N b).2]) ∧ PPost W2.heap.size (.pointer (some ⟨gh, 0, none⟩)) N F4 W4 (wordsL (layO os1 N b)) w') := alay_any (os := os1) HOK1.out _ b W4 HP4.out (OLD.out W4 HB4.out).2.2.2.2.2.1 HB4.out.size
    have ok2 := layO_ok HOK1.out N b
    have al2 := layO_all HAL1.out N hsb
    have le2 := lay_le (z := b) HLE1.out
    have no2 : (layM os1 N b).2 ≠ 0 → N - (usedL os1 : Nat) < needZ b := fun h => lay_no h
    have pu2 := layM_u os1 N b
    obtain ⟨qw, hqw⟩ : ∃ p, p = (layM os1 N b).1 := ⟨_, rfl⟩
    obtain ⟨e2, he2⟩ : ∃ p, p = (layM os1 N b).2 := ⟨_, rfl⟩
    obtain ⟨os2, ho2⟩ : ∃ p, p = layO os1 N b := ⟨_, rfl⟩
    rw [← hqw, ← he2, ← ho2] at CL2
    rw [← ho2] at ok2 al2 le2
    rw [← he2] at no2
    rw [← hqw] at pu2
    clear hqw he2 ho2
    have HOK2 := hid ok2
    have HAL2 := hid al2
    have HNO2 := hid no2
    have HPU2 := hid pu2
    have HLE2 := hid le2
    obtain ⟨c0, c1, c2, c3, _, _, _⟩ := OLD.out W4 HB4.out
    clear ok2 al2 no2 pu2 le2
    go_wp2_with fail
    (with_reducible refine CL2.out.mono ?_)
    rintro e W5 ⟨rfl, hp5⟩
    have HB5 := hid (HB4.out.trans (PPost.below HP4.out hp5 HB4.out.size))
    obtain ⟨F5, hP5, _, _⟩ := hp5
    have HP5 := hid hP5
    clear hP5 CL2 c0 c1 c2 c3 HB4 HP4
    obtain ⟨nza, hnza⟩ : ∃ z, z = needZ a := ⟨_, rfl⟩
    obtain ⟨nzb, hnzb⟩ : ∃ z, z = needZ b := ⟨_, rfl⟩
    by_cases hee : e1 ≠ 0 ∨ e2 ≠ 0
    · have hsum : N < nza + nzb := by
        by_cases h1 : e1 = 0
        · have h2 : e2 ≠ 0 := by rcases hee with h | h; exact absurd h1 h; exact h
          have k1 := HUS1.out h1
          have k2 := HNO2.out h2
          omega
        · have k1 := HNO1.out h1
          omega
      have hwr : IntKind.i64.wrap (nza + nzb) = nza + nzb := by rw [IntKind.wrap_i64]; omega
      have hdd : decide (N < nza + nzb) = true := decide_eq_true hsum
      have CNA : Hid (∀ X, Below W5.heap.size W5 X → Calls Try.prog 12 #[.agg #[.bool neg, .slice ao n cap]] X fun e w' => e = .returned (.int .i64 nza) ∧ Below X.heap.size X w') := fun X h => by
        have := aneed_any _ a X ((OLD.out W5 HB5.out).2.2.2.2.1.below h)
        rw [← hnza] at this; exact this
      have CNB : Hid (∀ X, Below W5.heap.size W5 X → Calls Try.prog 12 #[.agg #[.bool neg', .slice ao' n' cap']] X fun e w' => e = .returned (.int .i64 nzb) ∧ Below X.heap.size X w') := fun X h => by
        have := aneed_any _ b X ((OLD.out W5 HB5.out).2.2.2.2.2.1.below h)
        rw [← hnzb] at this; exact this
      have HB5w := hid (OLD.out W5 HB5.out).2.2.2.2.2.2
      have HS0 : Hid (W5.cell? ⟨w.heap.size + 1, 0, none⟩ = some (.bool neg) ∧ W5.cell? ⟨w.heap.size + 1, 1, none⟩ = some (.slice ao n cap) ∧ W5.cell? ⟨w.heap.size + 1 + 1, 0, none⟩ = some (.bool neg') ∧ W5.cell? ⟨w.heap.size + 1 + 1, 1, none⟩ = some (.slice ao' n' cap') ∧ Below W5.heap.size W5 W5) := by
        obtain ⟨k0, k1, k2, k3, _⟩ := OLD.out W5 HB5.out
        exact ⟨k0, k1, k2, k3, Below.refl _ _⟩
      clear hnza hnzb hsum hna hnb hna2 hnb2
      by_cases h1 : e1 = 0
      · have h2 : (e2 != 0) = true := by
          rcases hee with h | h
          · exact absurd h1 h
          · simpa using h
        subst h1
        clear hee
        go_wp2_with fail
        go_region_held3 (fun wx => wx.cell? ⟨w.heap.size + 1, 0, none⟩ = some (.bool neg) ∧ wx.cell? ⟨w.heap.size + 1, 1, none⟩ = some (.slice ao n cap) ∧ wx.cell? ⟨w.heap.size + 1 + 1, 0, none⟩ = some (.bool neg') ∧ wx.cell? ⟨w.heap.size + 1 + 1, 1, none⟩ = some (.slice ao' n' cap') ∧ Below W5.heap.size W5 wx)
          (first | exact boxrow_on HS0.out (Bd W5 1) | exact boxrow_on (by assumption) (by assumption))
          (first
            | (go_at_call_of 12 (Value.slice ao n cap); (with_reducible refine (CNA.out _ ?_).mono ?_); (exact boxrow_bel (p := w.heap.size + 1) (b := w.heap.size + 1 + 1) (i := 0) (j := 1) (a0 := .bool neg) (a1 := .slice ao n cap) (b0 := .bool neg') (b1 := .slice ao' n' cap') (by assumption)); rintro e wa ⟨rfl, ba⟩)
            | (go_at_call_of 12 (Value.slice ao' n' cap'); (with_reducible refine (CNB.out _ ?_).mono ?_); (exact boxrow_bel (p := w.heap.size + 1) (b := w.heap.size + 1 + 1) (i := 0) (j := 1) (a0 := .bool neg) (a1 := .slice ao n cap) (b0 := .bool neg') (b1 := .slice ao' n' cap') (by assumption)); rintro e wb ⟨rfl, bb2⟩)
            | (go_at_call 8; (with_reducible refine (CA.out _).mono ?_); rintro e wc ⟨rfl, bc⟩))
        all_goals
          rename_i hHeld
          have HBE := hid (Bt HB5w.out (boxrow_bel hHeld))
          clear hHeld
          go_wp2
          go_ret
          exact ⟨by simp, HBE.out⟩

      · have h2 : (e1 != 0) = true := by simpa using h1
        clear hee h1
        go_wp2_with fail
        go_region_held3 (fun wx => wx.cell? ⟨w.heap.size + 1, 0, none⟩ = some (.bool neg) ∧ wx.cell? ⟨w.heap.size + 1, 1, none⟩ = some (.slice ao n cap) ∧ wx.cell? ⟨w.heap.size + 1 + 1, 0, none⟩ = some (.bool neg') ∧ wx.cell? ⟨w.heap.size + 1 + 1, 1, none⟩ = some (.slice ao' n' cap') ∧ Below W5.heap.size W5 wx)
          (first | exact boxrow_on HS0.out (Bd W5 1) | exact boxrow_on (by assumption) (by assumption))
          (first
            | (go_at_call_of 12 (Value.slice ao n cap); (with_reducible refine (CNA.out _ ?_).mono ?_); (exact boxrow_bel (p := w.heap.size + 1) (b := w.heap.size + 1 + 1) (i := 0) (j := 1) (a0 := .bool neg) (a1 := .slice ao n cap) (b0 := .bool neg') (b1 := .slice ao' n' cap') (by assumption)); rintro e wa ⟨rfl, ba⟩)
            | (go_at_call_of 12 (Value.slice ao' n' cap'); (with_reducible refine (CNB.out _ ?_).mono ?_); (exact boxrow_bel (p := w.heap.size + 1) (b := w.heap.size + 1 + 1) (i := 0) (j := 1) (a0 := .bool neg) (a1 := .slice ao n cap) (b0 := .bool neg') (b1 := .slice ao' n' cap') (by assumption)); rintro e wb ⟨rfl, bb2⟩)
            | (go_at_call 8; (with_reducible refine (CA.out _).mono ?_); rintro e wc ⟨rfl, bc⟩))
        all_goals
          rename_i hHeld
          have HBE := hid (Bt HB5w.out (boxrow_bel hHeld))
          clear hHeld
          go_wp2
          go_ret
          exact ⟨by simp, HBE.out⟩
    · have h1 : e1 = 0 := Classical.byContradiction fun h => hee (.inl h)
      have h2 : e2 = 0 := Classical.byContradiction fun h => hee (.inr h)
      subst h1 h2
      clear hee HNO1 HNO2 hnza hnzb hna hnb hna2 hnb2 HUS1
      have hle := HLE2.out
      have CRm : Hid (Calls Try.prog 18 #[.pointer (some ⟨gh, 0, none⟩)] W5 fun e w' => e = .returned (.int .i64 (N - (usedL os2 : Nat))) ∧ Below W5.heap.size W5 w') := by
        have := proom_any W5 HP5.out
        rw [wordsL_length] at this; exact this
      have CNd : Hid (∀ X, Below W5.heap.size W5 X → Calls Try.prog 19 #[.pointer (some ⟨gh, 0, none⟩), .int .i64 op, .int .u64 pw, .int .u64 qw] X fun e w' => e = .returned (.int .i64 (needZ (resZ os2 op pw qw).1)) ∧ Below X.heap.size X w') := fun X h => aroom_any HOK2.out HAL2.out op pw qw HPU1.out HPU2.out X (HP5.out.onb h)
      have CDo : Hid (∀ X, Below W5.heap.size W5 X → Calls Try.prog 20 #[.pointer (some ⟨gh, 0, none⟩), .int .i64 op, .int .u64 pw, .int .u64 qw] X fun e w' => e = .returned (.tuple #[.int .u64 (doM os2 N op pw qw).1, .int .i64 (doM os2 N op pw qw).2]) ∧ PPost W2.heap.size (.pointer (some ⟨gh, 0, none⟩)) N F5 W5 (wordsL (doO os2 N op pw qw)) w') := fun X h => by
        refine (ado_any HOK2.out HAL2.out op pw qw HPU1.out HPU2.out X (HP5.out.onb h) (Nat.le_trans HB5.out.size h.size)).mono ?_
        rintro e w' ⟨rfl, hp⟩
        exact ⟨rfl, PPost.front h hp⟩
      have CR2 : Hid (∀ (F' : Nat → Prop) X, PH W2.heap.size (.pointer (some ⟨gh, 0, none⟩)) N (wordsL (doO os2 N op pw qw)) F' X → Calls Try.prog 18 #[.pointer (some ⟨gh, 0, none⟩)] X fun e w' => e = .returned (.int .i64 (N - (usedL (doO os2 N op pw qw) : Nat))) ∧ Below X.heap.size X w') := fun F' X h => by
        have := proom_any X h
        rw [wordsL_length] at this; exact this
      have hok := do_ok (os := os2) (N := N) (op := op) (p := pw) (q := qw)
      have hno := do_no (os := os2) (N := N) (op := op) (p := pw) (q := qw) hle
      have hnn := need_nn (resZ os2 op pw qw).1
      have hn42 := need_le (res_small HAL2.out op pw qw)
      obtain ⟨gw, hgw⟩ : ∃ g, g = (doM os2 N op pw qw).1 := ⟨_, rfl⟩
      obtain ⟨g, hg⟩ : ∃ g, g = (doM os2 N op pw qw).2 := ⟨_, rfl⟩
      obtain ⟨osd, hosd⟩ : ∃ o, o = doO os2 N op pw qw := ⟨_, rfl⟩
      obtain ⟨nd, hnd⟩ : ∃ o, o = needZ (resZ os2 op pw qw).1 := ⟨_, rfl⟩
      rw [← hgw, ← hg, ← hosd] at CDo
      rw [← hosd] at CR2
      rw [← hnd] at CNd hnn hn42
      rw [← hg, ← hosd, ← hnd] at hok hno
      obtain ⟨rm, hrm⟩ : ∃ r, r = N - (usedL os2 : Nat) := ⟨_, rfl⟩
      rw [← hrm] at CRm
      have hrm0 : 0 ≤ rm := by omega
      have hrm1 : rm ≤ 300 := by omega
      have HOKd := hid hok
      have HNOd := hid hno
      have HRM := hid hrm
      have HB5w := hid (OLD.out W5 HB5.out).2.2.2.2.2.2
      have HBX : Hid (∀ X, Below W2.heap.size W2 X → Below w.heap.size w X) := fun X h => (OLD.out X h).2.2.2.2.2.2
      clear hgw hg hosd hnd hrm hok hno hle
      by_cases hg0 : g = 0
      · subst hg0
        have hroom : N - (usedL osd : Nat) = rm - nd := by
          have := HOKd.out rfl
          have := HRM.out
          omega
        rw [hroom] at CR2
        have hwr : IntKind.i64.wrap (rm - nd) = rm - nd := by rw [IntKind.wrap_i64]; omega
        clear hroom
        go_wp2_with (first
          | (go_at_call 19; (with_reducible refine (CNd.out W6 HB6.out).mono ?_); rintro e W7 ⟨rfl, v7⟩; have HB7 := hid (Bt HB6.out v7); clear v7)
          | (go_at_call 20; (with_reducible refine (CDo.out W7 HB7.out).mono ?_); rintro e W8 ⟨rfl, hp8⟩; have HB8 := hid (HB5.out.trans (PPost.below HP5.out hp8 HB5.out.size)); obtain ⟨F8, hP8, _, _⟩ := hp8; have HP8 := hid hP8; clear hP8)
          | (go_at_call 18; (with_reducible refine CRm.out.mono ?_); rintro e W6 ⟨rfl, v6⟩; have HB6 := hid v6; clear v6)
          | (go_at_call 18; (with_reducible refine (CR2.out F8 W8 HP8.out).mono ?_); rintro e W9 ⟨rfl, v9⟩; have HB9 := hid (HB8.out.trans (v9.mono HB8.out.size)); clear v9)
          | (go_at_call 8; (with_reducible refine (CA.out _).mono ?_); rintro e We ⟨rfl, ve⟩; have HBe := hid (Bt (HBX.out _ HB9.out) ve); clear ve))
        go_ret
        exact ⟨by simp, HBe.out⟩
      · obtain ⟨ho3, hi3⟩ := HNOd.out hg0
        have hroom : N - (usedL osd : Nat) = rm := by
          have := HRM.out
          rw [ho3]; omega
        rw [hroom] at CR2
        rw [← HRM.out] at hi3
        have h3 : (g == 0) = false := by simpa using hg0
        clear hroom ho3
        by_cases hfull : rm < nd
        · obtain rfl : g = 3 := hi3.2 hfull
          have hdd : decide (rm < nd) = true := decide_eq_true hfull
          clear hi3
          go_wp2_with (first
            | (go_at_call 19; (with_reducible refine (CNd.out W6 HB6.out).mono ?_); rintro e W7 ⟨rfl, v7⟩; have HB7 := hid (Bt HB6.out v7); clear v7)
            | (go_at_call 20; (with_reducible refine (CDo.out W7 HB7.out).mono ?_); rintro e W8 ⟨rfl, hp8⟩; have HB8 := hid (HB5.out.trans (PPost.below HP5.out hp8 HB5.out.size)); obtain ⟨F8, hP8, _, _⟩ := hp8; have HP8 := hid hP8; clear hP8)
            | (go_at_call 18; (with_reducible refine CRm.out.mono ?_); rintro e W6 ⟨rfl, v6⟩; have HB6 := hid v6; clear v6)
            | (go_at_call 18; (with_reducible refine (CR2.out F8 W8 HP8.out).mono ?_); rintro e W9 ⟨rfl, v9⟩; have HB9 := hid (HB8.out.trans (v9.mono HB8.out.size)); clear v9)
            | (go_at_call 8; (with_reducible refine (CA.out _).mono ?_); rintro e We ⟨rfl, ve⟩; have HBe := hid (Bt (HBX.out _ HB9.out) ve); clear ve))
          go_ret
          exact ⟨by simp, HBe.out⟩
        · have hg3 : (g == 3) = false := by
            simp only [beq_eq_false_iff_ne]
            exact fun e => hfull (hi3.1 e)
          have hdd : decide (rm < nd) = false := decide_eq_false hfull
          clear hi3
          go_wp2_with (first
            | (go_at_call 19; (with_reducible refine (CNd.out W6 HB6.out).mono ?_); rintro e W7 ⟨rfl, v7⟩; have HB7 := hid (Bt HB6.out v7); clear v7)
            | (go_at_call 20; (with_reducible refine (CDo.out W7 HB7.out).mono ?_); rintro e W8 ⟨rfl, hp8⟩; have HB8 := hid (HB5.out.trans (PPost.below HP5.out hp8 HB5.out.size)); obtain ⟨F8, hP8, _, _⟩ := hp8; have HP8 := hid hP8; clear hP8)
            | (go_at_call 18; (with_reducible refine CRm.out.mono ?_); rintro e W6 ⟨rfl, v6⟩; have HB6 := hid v6; clear v6)
            | (go_at_call 18; (with_reducible refine (CR2.out F8 W8 HP8.out).mono ?_); rintro e W9 ⟨rfl, v9⟩; have HB9 := hid (HB8.out.trans (v9.mono HB8.out.size)); clear v9)
            | (go_at_call 8; (with_reducible refine (CA.out _).mono ?_); rintro e We ⟨rfl, ve⟩; have HBe := hid (Bt (HBX.out _ HB9.out) ve); clear ve))
          go_ret
          exact ⟨by simp, HBe.out⟩
  · have hg' : (g1 && g2) = false := by simpa using hg
    rw [hg'] at CG1
    clear hg hg' HA HB
    go_wp2_with (first
      | (go_at_call 7; (with_reducible refine CG1.out.mono ?_); rintro e W2 ⟨rfl, v2⟩; have HB2 := hid (Bt HB1.out v2); clear v2)
      | (go_at_call 8; (with_reducible refine (CA.out _).mono ?_); rintro e We ⟨rfl, ve⟩; have HBe := hid (Bt HB2.out ve); clear ve))
    go_ret
    exact ⟨rfl, HBe.out⟩
end Go.Proofs.Ytdekkieajffblaa
