/-
  Walk: ArithFull.
-/
import Derived.Test.YtdekkieajffblaaArg
set_option linter.unusedVariables false
set_option linter.unusedSimpArgs false
set_option maxRecDepth 100000
namespace Go.Proofs.Ytdekkieajffblaa
open Go.RowKit

theorem boxrow_on {W wx wy : World} {p b i j : Nat} {a0 a1 b0 b1 : Value}
    (h : wx.cell? ⟨p, 0, none⟩ = some a0 ∧ wx.cell? ⟨p, 1, none⟩ = some a1 ∧ wx.cell? ⟨b, i, none⟩ = some b0 ∧ wx.cell? ⟨b, j, none⟩ = some b1 ∧ Below W.heap.size W wx) (hb : Below wx.heap.size wx wy) :
    wy.cell? ⟨p, 0, none⟩ = some a0 ∧ wy.cell? ⟨p, 1, none⟩ = some a1 ∧ wy.cell? ⟨b, i, none⟩ = some b0 ∧ wy.cell? ⟨b, j, none⟩ = some b1 ∧ Below W.heap.size W wy := by
  obtain ⟨h1, h2, h3, h4, h7⟩ := h
  exact ⟨(hb.cell (p := ⟨p, 0, none⟩) (cell_lt h1)).trans h1, (hb.cell (p := ⟨p, 1, none⟩) (cell_lt h1)).trans h2, (hb.cell (p := ⟨b, i, none⟩) (cell_lt h3)).trans h3, (hb.cell (p := ⟨b, j, none⟩) (cell_lt h4)).trans h4, Bt h7 hb⟩
theorem boxrow_bel {W wx : World} {p b i j : Nat} {a0 a1 b0 b1 : Value}
    (h : wx.cell? ⟨p, 0, none⟩ = some a0 ∧ wx.cell? ⟨p, 1, none⟩ = some a1 ∧ wx.cell? ⟨b, i, none⟩ = some b0 ∧ wx.cell? ⟨b, j, none⟩ = some b1 ∧ Below W.heap.size W wx) : Below W.heap.size W wx := h.2.2.2.2
theorem need_le {z : Int} (hb : ¬ Big z.natAbs) : needZ z ≤ 42 := by
  unfold needZ
  split
  · omega
  · have := mg_len40 hb; omega
theorem lay_fits {os : List Ob} {N z : Int} (h : needZ z ≤ N - (usedL os : Nat)) : (layM os N z).2 = 0 := by
  rw [layM_is]
  split
  · rfl
  · rw [if_neg (by omega)]
theorem layM_u (os : List Ob) (N z : Int) : U64 (layM os N z).1 := by
  rw [layM_is]
  split
  · exact wordR_rng _ _ _
  · split
    · unfold U64; omega
    · exact wordR_rng _ _ _
set_option maxHeartbeats 8000000 in
theorem arithLays_walk (ao : Option Addr) (n cap : Nat) (l : List (Bool × List Nat)) (w : World) (R : ZRow w ao n cap l) :
    Calls Try.prog 4 #[.slice ao n cap] w fun e w' => e = .returned (.bool true) ∧ Below w.heap.size w w' := by
  have hf := R.fits
  have hmx := R.most
  have hln := R.len
  unfold maxLen at hmx
  have HR := hid R
  have CA := hid (fun W : World => arawake_any W)
  clear R
  by_cases h30 : n ≤ 30
  · have CG := hid (zgood_any ao n cap l w HR.out (by omega))
    by_cases hg : l.all goodZ = true
    · rw [hg] at CG
      have HG := hid hg
      clear hg
      go_enter Try.func4, Try.ntmps4
      go_wp2_with fail
      (with_reducible refine CG.out.mono ?_)
      rintro e W1 ⟨rfl, b1⟩
      have HB1 := hid b1
      clear b1 CG
      go_wp2_with fail
      (with_reducible refine (pnew_ok 5000 (by omega) (by omega) W1).mono ?_)
      rintro e W2 ⟨v, F, rfl, hP, b2⟩
      have HP2 := hid hP
      have HB2 := hid b2
      obtain ⟨gh, rfl⟩ := hP.ptr
      clear hP b2
      go_wp2_with fail
      go_loopw [5] (fun i wr => ∃ q : Nat, q ≤ n ∧ i = .int .i64 q ∧ Hid (∃ os F, PH W1.heap.size (.pointer (some ⟨gh, 0, none⟩)) 5000 (wordsL os) F wr ∧ OsOk os ∧ AllBig os ∧ usedL os ≤ 42 * q ∧ Below W1.heap.size W1 wr)) (fun i _ => n - (intOf i).toNat)
      case atStart => exact ⟨0, Nat.zero_le _, rfl, [], F, HP2.out, os_nil, all_nil, Nat.le_refl _, HB2.out⟩
      case round =>
        obtain ⟨q, hq, rfl, hI⟩ := hrel
        obtain ⟨os, Fq, hP, hO, hA, hU, hB⟩ := hI.out
        have HP := hid hP
        have HO := hid hO
        have HA := hid hA
        have HBq := hid hB
        have HU := hid hU
        have HBw := hid (HB1.out.trans (hB.mono HB1.out.size))
        clear hI hP hO hA hB hU
        by_cases hlt : q < n
        · obtain ⟨b, o, rfl, hlb, hc⟩ := (HR.out.below HB1.out).some (by omega)
          obtain ⟨c0, a, m, c, c1, hrow⟩ := hc q hlt
          have hgz : goodZ (l.getD q default) = true := List.all_eq_true.1 HG.out _ (by rw [List.getD_eq_getElem?_getD, List.getElem?_eq_getElem (by omega)]; exact List.getElem_mem _)
          obtain ⟨⟨s, lm⟩, hx⟩ : ∃ x, x = l.getD q default := ⟨_, rfl⟩
          rw [← hx] at c0 hrow hgz
          have c0 : W1.cell? ⟨b, o + q * 2, none⟩ = some (.bool s) := c0
          have hrow : Row .u32 B32 W1 a m c lm := hrow
          have hint : IsInt W1 (.agg #[.bool s, .slice a m c]) (sgn s (val B32 lm)) := ⟨s, lm, ⟨a, m, c, rfl, hrow⟩, hgz, rfl⟩
          obtain ⟨z, hz⟩ : ∃ z, z = sgn s (val B32 lm) := ⟨_, rfl⟩
          rw [← hz] at hint
          have hsmall : ¬ Big z.natAbs := hint.parts.2.2.1
          have hn1 := need_nn z
          have hn2 := need_le hsmall
          have hU := HU.out
          have hfit := lay_fits (os := os) (N := 5000) (z := z) (by omega)
          have hnum := numM_lay (os := os) (N := 5000) (z := z) (by omega) hfit
          have hused := lay_used os 5000 z hfit
          have HC : Hid (∀ X, Below W1.heap.size W1 X → X.cell? ⟨b, o + q * 2, none⟩ = some (.bool s) ∧ X.cell? ⟨b, o + q * 2 + 1, none⟩ = some (.slice a m c) ∧ IsInt X (.agg #[.bool s, .slice a m c]) z) := fun X hX => ⟨(hX.cell (p := ⟨b, o + q * 2, none⟩) hlb).trans c0, (hX.cell (p := ⟨b, o + q * 2 + 1, none⟩) hlb).trans c1, hint.below hX⟩
          have HI := hid (HC.out wr HBq.out).2.2
          have CU : Hid (Calls Try.prog 15 #[.pointer (some ⟨gh, 0, none⟩)] wr fun e w' => e = .returned (.int .i64 (usedL os : Nat)) ∧ Below wr.heap.size wr w') := by
            have := pused_any wr HP.out
            rw [wordsL_length] at this
            exact this
          have CL : Hid (∀ W, Below wr.heap.size wr W → Calls Try.prog 16 #[.pointer (some ⟨gh, 0, none⟩), .agg #[.bool s, .slice a m c]] W fun e w' => e = .returned (.tuple #[.int .u64 (layM os 5000 z).1, .int .i64 0]) ∧ PPost W1.heap.size (.pointer (some ⟨gh, 0, none⟩)) 5000 Fq wr (wordsL (layO os 5000 z)) w') := fun W hW => by
            have := alay_any HO.out _ z W (HP.out.onb hW) (HI.out.below hW) (Nat.le_trans HBq.out.size hW.size)
            rw [hfit] at this
            refine this.mono ?_
            rintro e w' ⟨rfl, hp⟩
            exact ⟨rfl, PPost.front hW hp⟩
          have HO' := hid (layO_ok HO.out 5000 z)
          have HA' := hid (layO_all HA.out 5000 hsmall)
          have HU' : Hid (usedL (layO os 5000 z) ≤ 42 * (q + 1)) := by unfold Hid; omega
          have HUS := hid hused
          have hwu := layM_u os 5000 z
          obtain ⟨pw, hpw⟩ : ∃ x, x = (layM os 5000 z).1 := ⟨_, rfl⟩
          obtain ⟨os', hos'⟩ : ∃ x, x = layO os 5000 z := ⟨_, rfl⟩
          rw [← hpw] at CL hnum hwu
          rw [← hos'] at CL hnum HO' HA' HU' HUS
          have CNm : Hid (∀ (F' : Nat → Prop) W, PH W1.heap.size (.pointer (some ⟨gh, 0, none⟩)) 5000 (wordsL os') F' W → Calls Try.prog 17 #[.pointer (some ⟨gh, 0, none⟩), .int .u64 pw] W fun e w' => ∃ s ao n cap, e = .returned (.tuple #[.agg #[.bool s, .slice ao n cap], .bool true]) ∧ IsInt w' (.agg #[.bool s, .slice ao n cap]) z ∧ Below W.heap.size W w') := fun F' W h => by
            have := anumber_any HO'.out HA'.out pw hwu W h
            rw [hnum] at this
            exact this
          obtain ⟨u0, hu0⟩ : ∃ x, x = usedL os := ⟨_, rfl⟩
          rw [← hu0] at CU HUS
          have hu0b : u0 ≤ 1260 := by omega
          obtain ⟨nz, hnz⟩ : ∃ x, x = needZ z := ⟨_, rfl⟩
          rw [← hnz] at hn1 hn2 HUS
          have HNZ := hid hnz
          have CU2 : Hid (∀ (F' : Nat → Prop) W, PH W1.heap.size (.pointer (some ⟨gh, 0, none⟩)) 5000 (wordsL os') F' W → Calls Try.prog 15 #[.pointer (some ⟨gh, 0, none⟩)] W fun e w' => e = .returned (.int .i64 ((u0 : Int) + nz)) ∧ Below W.heap.size W w') := fun F' W h => by
            have := pused_any W h
            rw [wordsL_length, HUS.out] at this
            exact this
          have CND : Hid (∀ W, Below wr.heap.size wr W → Calls Try.prog 12 #[.agg #[.bool s, .slice a m c]] W fun e w' => e = .returned (.int .i64 nz) ∧ Below W.heap.size W w') := fun W h => by
            have := aneed_any _ z W (HI.out.below h)
            rw [← HNZ.out] at this
            exact this
          clear hc hx hrow hint hz hsmall hU hfit hnum hused hpw hos' hu0 hnz hgz hwu c0 c1
          go_wp2_with fail
          (with_reducible refine CU.out.mono ?_)
          rintro e V1 ⟨rfl, t1⟩
          have HT1 := hid t1
          obtain ⟨c0, c1, _⟩ := HC.out V1 (HBq.out.trans (t1.mono HBq.out.size))
          clear t1
          go_wp2_with fail
          (with_reducible refine (CL.out V1 HT1.out).mono ?_)
          rintro e V2 ⟨rfl, hp⟩
          have HV2 := hid (HBq.out.trans (PPost.below HP.out hp HBq.out.size))
          obtain ⟨F2, hp2, _, _⟩ := hp
          have HP2' := hid hp2
          clear c0 c1 hp2
          go_wp2_with fail
          (with_reducible refine (CNm.out F2 V2 HP2'.out).mono ?_)
          rintro e V3 ⟨s3, a3, n3, c3, rfl, i3, t3⟩
          have u3 := Ba V3 (.cells #[.bool s3, .slice a3 n3 c3] 24)
          have y3 := (Box.new 24 V3 s3 a3 n3 c3).c
          have t3' := Bt t3 u3
          have I3 := hid (i3.below u3)
          have HP3 := hid (HP2'.out.onb t3')
          have HV3 := hid (HV2.out.trans (t3'.mono HV2.out.size))
          obtain ⟨k0, k1, hI4⟩ := HC.out _ HV3.out
          have I4 := hid hI4
          clear i3 t3 u3 t3' HP2' HV2 hI4
          go_wp2_with fail
          obtain ⟨gx, hgx⟩ : ∃ g, g = V3.heap.size := ⟨_, rfl⟩
          rw [← hgx] at y3 ⊢
          generalize V3.alloc (.cells #[.bool s3, .slice a3 n3 c3] 24) = W at *
          clear hgx
          have hS0 : W.cell? ⟨gx, 0, none⟩ = some (.bool s3) ∧ W.cell? ⟨gx, 1, none⟩ = some (.slice a3 n3 c3) ∧ W.cell? ⟨b, o + q * 2, none⟩ = some (.bool s) ∧ W.cell? ⟨b, o + q * 2 + 1, none⟩ = some (.slice a m c) ∧ Below W.heap.size W W := ⟨y3.1, y3.2, k0, k1, Below.refl _ _⟩
          have HS0 := hid hS0
          have CND2 : Hid (∀ X, Below W.heap.size W X → Calls Try.prog 12 #[.agg #[.bool s, .slice a m c]] X fun e w' => e = .returned (.int .i64 nz) ∧ Below X.heap.size X w') := fun X h => by
            have := aneed_any _ z X (I4.out.below h)
            rw [← HNZ.out] at this
            exact this
          clear y3 k0 k1 hS0
          go_region_held3 (fun wx => wx.cell? ⟨gx, 0, none⟩ = some (.bool s3) ∧ wx.cell? ⟨gx, 1, none⟩ = some (.slice a3 n3 c3) ∧ wx.cell? ⟨b, o + q * 2, none⟩ = some (.bool s) ∧ wx.cell? ⟨b, o + q * 2 + 1, none⟩ = some (.slice a m c) ∧ Below W.heap.size W wx)
            (first | exact boxrow_on HS0.out (Bd W 1) | exact boxrow_on (by assumption) (by assumption))
            (first
              | (go_at_call 11; (with_reducible refine (zsame_true _ _ z _ ?_ ?_).mono ?_); (exact I3.out.below (boxrow_bel (p := gx) (b := b) (i := o + q * 2) (j := o + q * 2 + 1) (a0 := .bool s3) (a1 := .slice a3 n3 c3) (b0 := .bool s) (b1 := .slice a m c) (by assumption))); (exact I4.out.below (boxrow_bel (p := gx) (b := b) (i := o + q * 2) (j := o + q * 2 + 1) (a0 := .bool s3) (a1 := .slice a3 n3 c3) (b0 := .bool s) (b1 := .slice a m c) (by assumption))); rintro e wa ⟨rfl, ba⟩)
              | (go_at_call 15; (with_reducible refine (CU2.out F2 _ (HP3.out.onb ?_)).mono ?_); (exact boxrow_bel (p := gx) (b := b) (i := o + q * 2) (j := o + q * 2 + 1) (a0 := .bool s3) (a1 := .slice a3 n3 c3) (b0 := .bool s) (b1 := .slice a m c) (by assumption)); rintro e wb ⟨rfl, bb⟩)
              | (go_at_call 12; (with_reducible refine (CND2.out _ ?_).mono ?_); (exact boxrow_bel (p := gx) (b := b) (i := o + q * 2) (j := o + q * 2 + 1) (a0 := .bool s3) (a1 := .slice a3 n3 c3) (b0 := .bool s) (b1 := .slice a m c) (by assumption)); rintro e wc ⟨rfl, bc⟩))
          rename_i hHeld
          have HBW := hid (boxrow_bel hHeld)
          clear hHeld ba bb bc
          have e77 : (IntKind.i64.wrap ((u0 : Int) + nz - (u0 : Int)) != nz) = false := by
            have e : (u0 : Int) + nz - (u0 : Int) = nz := by omega
            rw [e, IntKind.wrap_i64]; simp; omega
          go_wp2_with fail
          refine ⟨⟨q + 1, by omega, by go_num, os', F2, HP3.out.onb HBW.out, HO'.out, HA'.out, HU'.out, HV3.out.trans (HBW.out.mono HV3.out.size)⟩, by simp [intOf] <;> omega⟩
        · obtain rfl : q = n := by omega
          go_wp2_with (go_at_call 8; (with_reducible refine (CA.out _).mono ?_); rintro e We ⟨rfl, ve⟩; have HBe := hid (Bt HBw.out ve); clear ve)
          go_ret
          exact ⟨rfl, HBe.out⟩
    · have hg' : l.all goodZ = false := by cases h : l.all goodZ <;> simp_all only [not_true, not_false_iff]
      rw [hg'] at CG
      clear hg hg'
      go_enter Try.func4, Try.ntmps4
      go_wp2_with (first
        | (go_at_call 7; (with_reducible refine CG.out.mono ?_); rintro e W1 ⟨rfl, v1⟩; have HB2 := hid v1; clear v1)
        | (go_at_call 8; (with_reducible refine (CA.out _).mono ?_); rintro e W2 ⟨rfl, v2⟩; have HB3 := hid (Bt HB2.out v2); clear v2))
      go_ret
      exact ⟨rfl, HB3.out⟩
  · go_enter Try.func4, Try.ntmps4
    go_wp2_with (go_at_call 8; (with_reducible refine (CA.out _).mono ?_); rintro e W2 ⟨rfl, v2⟩; have HB3 := hid v2; clear v2)
    go_ret
    exact ⟨rfl, HB3.out⟩
end Go.Proofs.Ytdekkieajffblaa

set_option linter.unusedVariables false
set_option linter.unusedSimpArgs false
set_option maxRecDepth 100000
namespace Go.Proofs.Ytdekkieajffblaa
open Go.RowKit

theorem need_zero : needZ 0 = 0 := by decide
theorem bigZ_err {z : Int} (h : (bigZ z).2 ≠ 0) : (bigZ z).1 = 0 ∧ (bigZ z).2 = 10 := by
  unfold bigZ at h ⊢
  split
  · exact ⟨rfl, rfl⟩
  · rename_i h1
    rw [if_neg h1] at h
    exact absurd rfl h
theorem reck_err {op a b : Int} (h : (reckM op a b).2 ≠ 0) : (reckM op a b).1 = 0 ∧ (reckM op a b).2 ≠ 3 := by
  unfold reckM at h ⊢
  by_cases h1 : op = 1
  · rw [if_pos h1] at h ⊢
    obtain ⟨k1, k2⟩ := bigZ_err h
    exact ⟨k1, by rw [k2]; decide⟩
  rw [if_neg h1] at h ⊢
  by_cases h2 : op = 2
  · rw [if_pos h2] at h ⊢
    obtain ⟨k1, k2⟩ := bigZ_err h
    exact ⟨k1, by rw [k2]; decide⟩
  rw [if_neg h2] at h ⊢
  by_cases h3 : op = 3
  · rw [if_pos h3] at h ⊢
    obtain ⟨k1, k2⟩ := bigZ_err h
    exact ⟨k1, by rw [k2]; decide⟩
  rw [if_neg h3] at h ⊢
  by_cases h0 : b = 0
  · simp only [h0, if_pos]
    split
    · exact ⟨rfl, by decide⟩
    · split
      · exact ⟨rfl, by decide⟩
      · split
        · exact ⟨rfl, by decide⟩
        · exact ⟨rfl, by decide⟩
  · simp only [h0, if_false] at h ⊢
    by_cases h4 : op = 4
    · rw [if_pos h4] at h; exact absurd rfl h
    rw [if_neg h4] at h ⊢
    by_cases h5 : op = 5
    · rw [if_pos h5] at h; exact absurd rfl h
    rw [if_neg h5] at h ⊢
    by_cases h6 : op = 6
    · rw [if_pos h6] at h; exact absurd rfl h
    rw [if_neg h6]
    exact ⟨rfl, by decide⟩
theorem bothZ_err (os : List Ob) (p q : Int) : (bothZ os p q).2.2 = 0 ∨ (bothZ os p q).2.2 = 70 := by
  unfold bothZ
  split
  · exact .inl rfl
  · exact .inr rfl
theorem res_err {os : List Ob} {op p q : Int} (h : (resZ os op p q).2 ≠ 0) : (resZ os op p q).1 = 0 ∧ (resZ os op p q).2 ≠ 3 := by
  unfold resZ at h ⊢
  by_cases h1 : op < 1 ∨ 6 < op
  · rw [if_pos h1]; exact ⟨rfl, by decide⟩
  rw [if_neg h1] at h ⊢
  by_cases h2 : (bothZ os p q).2.2 = 0
  · rw [if_pos h2] at h ⊢
    exact reck_err h
  · rw [if_neg h2]
    refine ⟨rfl, ?_⟩
    rcases bothZ_err os p q with e | e
    · exact absurd e h2
    · show (bothZ os p q).2.2 ≠ 3
      rw [e]; decide
theorem do_ok {os : List Ob} {N op p q : Int} (h : (doM os N op p q).2 = 0) : ((usedL (doO os N op p q) : Nat) : Int) = (usedL os : Nat) + needZ (resZ os op p q).1 := by
  unfold doM at h
  unfold doO
  by_cases h1 : (resZ os op p q).2 = 0
  · rw [if_pos h1] at h ⊢
    exact lay_used _ _ _ h
  · rw [if_neg h1] at h
    exact absurd h h1
theorem do_no {os : List Ob} {N op p q : Int} (hu : ((usedL os : Nat) : Int) ≤ N) (h : (doM os N op p q).2 ≠ 0) : doO os N op p q = os ∧ ((doM os N op p q).2 = 3 ↔ N - (usedL os : Nat) < needZ (resZ os op p q).1) := by
  unfold doM at h ⊢
  unfold doO
  by_cases h1 : (resZ os op p q).2 = 0
  · rw [if_pos h1] at h ⊢
    rw [if_pos h1]
    refine ⟨layM_err h, ?_⟩
    rw [layM_is] at h ⊢
    by_cases h2 : fixB (resZ os op p q).1 = true
    · rw [if_pos h2] at h; exact absurd rfl h
    · rw [if_neg h2] at h ⊢
      by_cases h3 : N - (usedL os : Nat) < needZ (resZ os op p q).1
      · rw [if_pos h3]; exact ⟨fun _ => h3, fun _ => rfl⟩
      · rw [if_neg h3] at h; exact absurd rfl h
  · rw [if_neg h1, if_neg h1]
    obtain ⟨k1, k2⟩ := res_err h1
    refine ⟨rfl, fun e => absurd e k2, fun e => ?_⟩
    rw [k1, need_zero] at e
    omega
theorem lay_no {os : List Ob} {N z : Int} (h : (layM os N z).2 ≠ 0) : N - (usedL os : Nat) < needZ z := by
  rw [layM_is] at h
  split at h
  · exact absurd rfl h
  · split at h
    · assumption
    · exact absurd rfl h
theorem lay_le {os : List Ob} {N z : Int} (hu : ((usedL os : Nat) : Int) ≤ N) : ((usedL (layO os N z) : Nat) : Int) ≤ N := by
  by_cases h : (layM os N z).2 = 0
  · have := lay_used os N z h
    rw [layM_is] at h
    split at h
    · rename_i h1
      have e : needZ z = 0 := by unfold needZ; rw [if_pos h1]
      omega
    · split at h
      · cases h
      · omega
  · rw [layM_err h]; exact hu
theorem reck_small {op a b : Int} (hb : ¬ Big b.natAbs) (ha : ¬ Big a.natAbs) : ¬ Big (reckM op a b).1.natAbs := by
  have h00 : ¬ Big (0 : Int).natAbs := not_big_64 _ (by decide)
  have hz : ∀ z, ¬ Big (bigZ z).1.natAbs := fun z => by
    unfold bigZ
    split
    · exact h00
    · rename_i h
      exact fun e => h ((tooB_iff z).2 e)
  unfold reckM
  split
  · exact hz _
  split
  · exact hz _
  split
  · exact hz _
  by_cases h0 : b = 0
  · simp only [h0, if_pos]
    split
    · exact h00
    · split
      · exact h00
      · split
        · exact h00
        · exact h00
  · simp only [h0, if_false]
    split
    · refine not_big_le (v := a.natAbs) ?_ ha
      show (a.tdiv b).natAbs ≤ _
      rw [Int.natAbs_tdiv]; exact Nat.div_le_self _ _
    · split
      · refine not_big_le (v := b.natAbs) ?_ hb
        have := tmod_abs (a := a) h0
        show (a.tmod b).natAbs ≤ _
        omega
      · split
        · show ¬ Big (modZ a b).natAbs
          unfold modZ
          split
          · rename_i h
            exact mod_small h0 hb h.2
          · refine not_big_le (v := b.natAbs) ?_ hb
            have := tmod_abs (a := a) h0
            omega
        · exact h00
theorem res_small {os : List Ob} (ha : AllBig os) (op p q : Int) : ¬ Big (resZ os op p q).1.natAbs := by
  have h00 : ¬ Big (0 : Int).natAbs := not_big_64 _ (by decide)
  have hn : ∀ p, ¬ Big ((numM os p).getD 0).natAbs := fun p => by
    cases h : numM os p with
    | none => exact h00
    | some z => exact numM_small ha h
  unfold resZ
  split
  · exact h00
  split
  · rename_i h
    refine reck_small ?_ ?_
    · unfold bothZ; split
      · exact hn q
      · exact h00
    · unfold bothZ; split
      · exact hn p
      · exact h00
  · exact h00
theorem doO_ok {os : List Ob} (h : OsOk os) (N op p q : Int) : OsOk (doO os N op p q) := by
  unfold doO
  split
  · exact layO_ok h _ _
  · exact h
theorem doO_all {os : List Ob} (h : AllBig os) (N op p q : Int) : AllBig (doO os N op p q) := by
  unfold doO
  split
  · exact layO_all h N (res_small h op p q)
  · exact h
end Go.Proofs.Ytdekkieajffblaa
