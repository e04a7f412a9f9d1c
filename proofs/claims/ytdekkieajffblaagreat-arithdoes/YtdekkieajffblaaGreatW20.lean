/-
  Walks: To, of the program and of the document's answer; From.
-/
import Derived.Test.YtdekkieajffblaaGreatG0
set_option linter.unusedVariables false
set_option linter.unusedSimpArgs false
namespace Go.Proofs.YtdekkieajffblaaGreat
open Go.RowKit

theorem or_u64_0 (d : Nat) (h : d < 4294967296) : bits .or .u64 0 (d : Int) = ((d : Nat) : Int) := by
  have := u64_or_nat 0 d (by omega) (by omega)
  rw [Nat.zero_or] at this; exact this
theorem or_u64_32 (a d : Nat) (h1 : a < 4294967296) (h2 : d < 4294967296) : bits .or .u64 (a : Int) ((d : Int) * 4294967296) = ((a + 4294967296 * d : Nat) : Int) := by
  rw [show ((d : Int) * 4294967296) = ((d * 4294967296 : Nat) : Int) by omega, u64_or_nat _ _ (by omega) (by omega), Nat.or_comm, nat_join 32 _ _ (by omega) (by omega)]; omega

/-- Numbers of 64 bits with a sign. -/
def fits (z : Int) : Bool := decide (-9223372036854775808 ≤ z ∧ z ≤ 9223372036854775807)

theorem long_not_fits {s : Bool} {l : List Nat} (hg : goodB s l = true) (h : 2 < l.length) : fits (sgn s (val B32 l)) = false := by
  have h1 := (goodB_tr hg).pos (B := B32) (by decide) (by intro e; simp [e] at h)
  have h2 : B32 ^ 2 ≤ B32 ^ (l.length - 1) := Nat.pow_le_pow_right (by decide) (by omega)
  have h3 : B32 ^ 2 = 18446744073709551616 := by decide
  unfold fits sgn
  cases s <;> simp <;> omega
theorem short_lt {l : List Nat} (hd : Dg B32 l) (h : l.length ≤ 2) : val B32 l ≤ 18446744073709551615 := by
  have h1 := val_lt hd
  have h2 : B32 ^ l.length ≤ B32 ^ 2 := Nat.pow_le_pow_right (by decide) h
  have h3 : B32 ^ 2 = 18446744073709551616 := by decide
  omega

theorem wrap_neg (a : Nat) (h : a ≤ 9223372036854775808) : wrap64 (IntKind.u64.wrap (-(a : Int))) = -(a : Int) := by
  rw [IntKind.wrap_u64]; unfold wrap64; omega

/-- What To answers. -/
def ToPost (w : World) (z : Int) (e : Ending) (w' : World) : Prop := ∃ v, e = .returned (.tuple #[.int .i64 v, .bool (fits z)]) ∧ (fits z = true → v = z) ∧ Below w.heap.size w w'
theorem toPost_no {w w' : World} {z v : Int} (hf : fits z = false) (hb : Below w.heap.size w w') : ToPost w z (.returned (.tuple #[.int .i64 v, .bool false])) w' :=
  ⟨v, by rw [hf], fun h => (by rw [hf] at h; cases h), hb⟩
theorem toPost_yes {w w' : World} {z v : Int} (hf : fits z = true) (hv : v = z) (hb : Below w.heap.size w w') : ToPost w z (.returned (.tuple #[.int .i64 v, .bool true])) w' :=
  ⟨v, by rw [hf], fun _ => hv, hb⟩

set_option maxRecDepth 100000 in
set_option maxHeartbeats 1000000 in
theorem to_any (neg : Bool) (ao : Option Addr) (n cap : Nat) (l : List Nat) (w : World) (R : Row .u32 B32 w ao n cap l) (g : goodB neg l = true) :
    Calls Tryz.prog 83 #[.agg #[.bool neg, .slice ao n cap]] w (ToPost w (sgn neg (val B32 l))) := by
  have hmx := R.most
  have hft := R.fits
  unfold maxLen at hmx
  have HR := hid R
  have G := hid g
  have HL := hid R.len
  clear R g
  go_enter Tryz.func83, Tryz.ntmps83
  go_wp2_with fail
  refine (good_any neg ao n cap l _ (HR.out.below (Ba _ _))).mono ?_
  rintro e w1 ⟨rfl, hb1⟩
  rw [G.out]
  have X := hid ((Box.new 40 w neg ao n cap).on hb1)
  obtain ⟨c0, c1⟩ := X.out.c
  have HB := hid (Bt (Ba w (.cells #[.bool neg, .slice ao n cap] 40)) hb1)
  have R1 := hid (HR.out.below HB.out)
  clear hb1 HR
  by_cases h2 : 2 < n
  · have e2 : decide ((2 : Int) < n) = true := by simp; omega
    have HF := hid (long_not_fits G.out (by rw [HL.out]; exact h2))
    go_wp2
    go_ret2
    exact toPost_no HF.out HB.out
  · have e2 : decide ((2 : Int) < n) = false := by simp; omega
    have hV := short_lt R1.out.dg (by rw [HL.out]; omega)
    obtain ⟨V, hVV⟩ : ∃ V, V = val B32 l := ⟨_, rfl⟩
    rw [← hVV] at hV
    have HV := hid hVV
    clear hVV
    go_wp2
    go_loop [4, 5, 6, 19] (fun m _ _ i => ∃ k a : Nat, k ≤ n ∧ i = .int .i64 k ∧ m = .int .u64 a ∧ Hid (a = val B32 (l.take k))) (fun _ _ _ i => n - (intOf i).toNat)
    case atStart => exact ⟨0, 0, Nat.zero_le _, rfl, rfl, by simp [Hid, val]⟩
    case round =>
      obtain ⟨k, a, hk, rfl, rfl, ha⟩ := hrel
      by_cases hlt : k < n
      · obtain ⟨b, o, rfl, hl, hc⟩ := R1.out.rd.some (by rw [HL.out]; omega)
        have hck := hc k (by rw [HL.out]; exact hlt)
        obtain ⟨d, hd⟩ : ∃ d, d = l.getD k 0 := ⟨_, rfl⟩
        rw [← hd] at hck
        have hdb : d < 4294967296 := by rw [hd]; exact R1.out.dg.getD _ (by rw [HL.out]; exact hlt)
        have HS : Hid (val B32 (l.take (k + 1)) = a + B32 ^ k * d) := by
          unfold Hid; rw [val_take_succ B32 l k (by rw [HL.out]; exact hlt), ← ha.out, ← hd]
        clear hd hc
        have hk2 : k = 0 ∨ k = 1 := by omega
        rcases hk2 with rfl | rfl
        · obtain rfl : a = 0 := by have := ha.out; simpa [val] using this
          have hor := or_u64_0 d hdb
          simp only [Nat.add_zero] at hck
          go_wp2
          exact ⟨⟨1, d, by omega, rfl, rfl, by unfold Hid; rw [HS.out]; simp⟩, by simp [intOf]; omega⟩
        · have hab : a < 4294967296 := by
            have h1 := ha.out
            have h2 := val_lt (R1.out.dg.take 1)
            have h3 : B32 ^ (l.take 1).length ≤ B32 ^ 1 := Nat.pow_le_pow_right (by decide) (by rw [List.length_take]; omega)
            have h4 : B32 ^ 1 = 4294967296 := by decide
            omega
          have hor := or_u64_32 a d hab hdb
          obtain ⟨A, hA⟩ : ∃ A, A = a + 4294967296 * d := ⟨_, rfl⟩
          rw [← hA] at hor
          have HA := hid hA
          clear hA
          go_wp2
          exact ⟨⟨2, A, by omega, rfl, rfl, by unfold Hid; rw [HS.out, HA.out]; simp [B32]⟩, by simp [intOf]; omega⟩
      · have haV : a = V := by rw [ha.out, HV.out, List.take_of_length_le (by rw [HL.out]; omega)]
        subst haV
        clear ha
        cases neg
        · by_cases hf : a ≤ 9223372036854775807
          · have HF : Hid (fits (sgn false a) = true) := by unfold Hid fits sgn; simp; omega
            have ec : decide ((a : Int) < 9223372036854775808) = true := by rw [decide_eq_true_eq]; omega
            go_wp2
            go_ret2
            rw [← HV.out]
            exact toPost_yes HF.out (by simp [sgn]) HB.out
          · have HF : Hid (fits (sgn false a) = false) := by unfold Hid fits sgn; simp; omega
            have ec : decide ((a : Int) < 9223372036854775808) = false := by rw [decide_eq_false_iff_not]; omega
            go_wp2
            go_ret2
            rw [← HV.out]
            exact toPost_no HF.out HB.out
        · by_cases hf : a ≤ 9223372036854775808
          · have HF : Hid (fits (sgn true a) = true) := by unfold Hid fits sgn; simp; omega
            go_wp2
            go_ret2
            rw [← HV.out]
            exact toPost_yes HF.out ((wrap_neg a hf).trans (by simp [sgn])) HB.out
          · have HF : Hid (fits (sgn true a) = false) := by unfold Hid fits sgn; simp; omega
            go_wp2
            go_ret2
            rw [← HV.out]
            exact toPost_no HF.out HB.out

theorem wrap_negneg (a : Nat) (h : a ≤ 9223372036854775808) : wrap64 (-(wrap64 (a : Int))) = -(a : Int) := by
  unfold wrap64; omega

set_option maxRecDepth 100000 in
set_option maxHeartbeats 1000000 in
theorem rto_any (neg : Bool) (ao : Option Addr) (n cap : Nat) (l : List Nat) (w : World) (R : Row .u32 B32 w ao n cap l) (g : goodB neg l = true) :
    Calls Tryz.prog 60 #[.agg #[.bool neg, .slice ao n cap]] w (ToPost w (sgn neg (val B32 l))) := by
  have hmx := R.most
  have hft := R.fits
  unfold maxLen at hmx
  have G := hid g
  have HL := hid R.len
  have HR := hid R
  clear R g
  by_cases h2 : 2 < n
  · have e2 : decide ((2 : Int) < n) = true := by simp; omega
    have HF := hid (long_not_fits G.out (by rw [HL.out]; exact h2))
    go_enter Tryz.func60, Tryz.ntmps60
    go_wp2
    go_ret2
    exact toPost_no HF.out (Ba _ _)
  · have e2 : decide ((2 : Int) < n) = false := by simp; omega
    have hV := short_lt HR.out.dg (by rw [HL.out]; omega)
    obtain ⟨V, hVV⟩ : ∃ V, V = val B32 l := ⟨_, rfl⟩
    rw [← hVV] at hV
    have HV := hid hVV
    clear hVV
    go_enter Tryz.func60, Tryz.ntmps60
    go_wp2
    have X := Box.new 40 w neg ao n cap
    have bW := Ba w (.cells #[.bool neg, .slice ao n cap] 40)
    generalize hW : w.alloc (.cells #[.bool neg, .slice ao n cap] 40) = W at *
    have R1 := hid (HR.out.below bW)
    have HB := hid bW
    obtain ⟨c0, c1⟩ := X.c
    clear hW bW X HR
    go_loop [4, 5] (fun m i => ∃ k a : Nat, k ≤ n ∧ i = .int .i64 k ∧ m = .int .u64 a ∧ Hid (a = val B32 (l.take k))) (fun _ i => n - (intOf i).toNat)
    case atStart => exact ⟨0, 0, Nat.zero_le _, rfl, rfl, by simp [Hid, val]⟩
    case round =>
      obtain ⟨k, a, hk, rfl, rfl, ha⟩ := hrel
      by_cases hlt : k < n
      · obtain ⟨b, o, rfl, hl, hc⟩ := R1.out.rd.some (by rw [HL.out]; omega)
        have hck := hc k (by rw [HL.out]; exact hlt)
        obtain ⟨d, hd⟩ : ∃ d, d = l.getD k 0 := ⟨_, rfl⟩
        rw [← hd] at hck
        have hdb : d < 4294967296 := by rw [hd]; exact R1.out.dg.getD _ (by rw [HL.out]; exact hlt)
        have HS : Hid (val B32 (l.take (k + 1)) = a + B32 ^ k * d) := by
          unfold Hid; rw [val_take_succ B32 l k (by rw [HL.out]; exact hlt), ← ha.out, ← hd]
        clear hd hc
        have hk2 : k = 0 ∨ k = 1 := by omega
        rcases hk2 with rfl | rfl
        · obtain rfl : a = 0 := by have := ha.out; simpa [val] using this
          have hor := or_u64_0 d hdb
          simp only [Nat.add_zero] at hck
          go_wp2
          go_round
          case rel => exact ⟨1, d, by omega, rfl, rfl, by unfold Hid; rw [HS.out]; simp⟩
          case measure => simp [intOf]; omega
        · have hab : a < 4294967296 := by
            have h1 := ha.out
            have h2 := val_lt (R1.out.dg.take 1)
            have h3 : B32 ^ (l.take 1).length ≤ B32 ^ 1 := Nat.pow_le_pow_right (by decide) (by rw [List.length_take]; omega)
            have h4 : B32 ^ 1 = 4294967296 := by decide
            omega
          have hor := or_u64_32 a d hab hdb
          obtain ⟨A, hA⟩ : ∃ A, A = a + 4294967296 * d := ⟨_, rfl⟩
          rw [← hA] at hor
          have HA := hid hA
          clear hA
          go_wp2
          go_round
          case rel => exact ⟨2, A, by omega, rfl, rfl, by unfold Hid; rw [HS.out, HA.out]; simp [B32]⟩
          case measure => simp [intOf]; omega
      · have haV : a = V := by rw [ha.out, HV.out, List.take_of_length_le (by rw [HL.out]; omega)]
        subst haV
        clear ha
        cases neg
        · by_cases hf : a ≤ 9223372036854775807
          · have HF : Hid (fits (sgn false a) = true) := by unfold Hid fits sgn; simp; omega
            have ec : decide ((9223372036854775808 : Int) ≤ a) = false := by rw [decide_eq_false_iff_not]; omega
            go_wp2
            go_ret2
            rw [← HV.out]
            exact toPost_yes HF.out (by simp [sgn]) HB.out
          · have HF : Hid (fits (sgn false a) = false) := by unfold Hid fits sgn; simp; omega
            have ec : decide ((9223372036854775808 : Int) ≤ a) = true := by rw [decide_eq_true_eq]; omega
            go_wp2
            go_ret2
            rw [← HV.out]
            exact toPost_no HF.out HB.out
        · by_cases hf : a ≤ 9223372036854775808
          · have HF : Hid (fits (sgn true a) = true) := by unfold Hid fits sgn; simp; omega
            have ec : decide ((a : Int) ≤ 9223372036854775808) = true := by rw [decide_eq_true_eq]; omega
            go_wp2
            go_ret2
            rw [← HV.out]
            exact toPost_yes HF.out ((wrap_negneg a hf).trans (by simp [sgn])) HB.out
          · have HF : Hid (fits (sgn true a) = false) := by unfold Hid fits sgn; simp; omega
            have ec : decide ((a : Int) ≤ 9223372036854775808) = false := by rw [decide_eq_false_iff_not]; omega
            go_wp2
            go_ret2
            rw [← HV.out]
            exact toPost_no HF.out HB.out

theorem row2 (W : World) (g x y : Nat) (hg : g = W.heap.size) (hx : x < B32) (hy : y < B32) : Row .u32 B32 (W.alloc (.cells #[.int .u32 x, .int .u32 y] 92)) (some ⟨g, 0, none⟩) 2 2 [x, y] := by
  subst hg
  refine ⟨rfl, Nat.le_refl _, by unfold maxLen; omega, fun h => (by cases h), ?_, .inr ⟨W.heap.size, 0, rfl, by simp, fun i hi => ?_⟩⟩
  · intro z hz
    simp at hz
    rcases hz with rfl | rfl
    · exact hx
    · exact hy
  · rw [cell_at _ _ _ _ _ rfl]
    have : i = 0 ∨ i = 1 := by simp at hi; omega
    rcases this with rfl | rfl <;> rfl

set_option maxHeartbeats 1000000 in
theorem from_core (n : Int) (u : Nat) (neg : Bool) (w : World) (hub : u ≤ 18446744073709551615) (hu : u = n.natAbs) (e0 : decide (n < 0) = neg) (hc : neg = true ∧ n < 0 ∧ IntKind.u64.wrap (-IntKind.u64.wrap n) = (u : Int) ∨ neg = false ∧ n = (u : Int)) :
    Calls Tryz.prog 37 #[.int .i64 n] w fun e w' => ∃ x, e = .returned x ∧ IsInt w' x n ∧ Below w.heap.size w w' := by
  have HU : Hid (sgn neg u = n) := by
    unfold Hid sgn
    rcases hc with ⟨rfl, h, _⟩ | ⟨rfl, h⟩
    · simp; omega
    · simp; omega
  clear hu
  rcases hc with ⟨rfl, hneg, hw⟩ | ⟨rfl, rfl⟩
  all_goals
    go_enter Tryz.func37, Tryz.ntmps37
    go_wp2_with fail
    obtain ⟨x, hx⟩ : ∃ x, x = u % 4294967296 := ⟨_, rfl⟩
    obtain ⟨y, hy⟩ : ∃ y, y = u / 4294967296 := ⟨_, rfl⟩
    have ex : (u : Int) % 4294967296 = (x : Int) := by rw [hx]; omega
    have ey : (u : Int) / 4294967296 = (y : Int) := by rw [hy]; omega
    rw [ex, ey]
    have HXY : Hid (val B32 [x, y] = u) := by unfold Hid; simp [val, B32]; omega
    have hr := row2 (w.alloc (.cells #[.bool false, .slice none 0 0] 40)) (w.heap.size + 1) x y (by simp) (by unfold B32; omega) (by unfold B32; omega)
    have hbx := ((Box.new 40 w false none 0 0).alloc (.cells #[.int .u32 x, .int .u32 y] 92))
    have hb0 := Baa w (.cells #[.bool false, .slice none 0 0] 40) (.cells #[.int .u32 x, .int .u32 y] 92)
    refine (whole_any _ (some ⟨w.heap.size + 1, 0, none⟩) 2 2 [x, y] _ hr).mono ?_
    rintro e w3 ⟨xx, l, rfl, hI, htl, hvl, hll, hb3⟩
    have hIs := is_mk hI htl (by rw [hvl, HXY.out]; exact not_big_64 u (by omega))
    rw [hvl, HXY.out, HU.out] at hIs
    obtain ⟨sx, ax, nx, cx, lx, rfl, Rx, gx, hzx⟩ := hIs.open_
    have X3 := hid (hbx.on hb3)
    obtain ⟨q0, q1⟩ := X3.out.c
    obtain ⟨f0, f1⟩ := X3.out.f
    have HB3 := hid (Bt hb0 hb3)
    have HRx := hid Rx
    have HGx := hid (And.intro gx hzx)
    clear hI htl hvl hb3 Rx hIs hr hbx hb0 gx hzx ex ey hx hy
    go_wp2
    have z := X3.out.set2 sx ax nx cx
    obtain ⟨y0, y1⟩ := z.c
    exact bodyPost_ret (v := .agg #[.bool sx, .slice ax nx cx]) (by simp [results, Tryz.results37, go_sem, y0, y1]) rfl ⟨_, rfl, ⟨sx, lx, ⟨ax, nx, cx, rfl, HRx.out.setBox2 X3.out _ _⟩, HGx.out.1, HGx.out.2⟩, (HB3.out.setCell (Nat.le_refl _) _).setCell (Nat.le_refl _) _⟩

theorem from_is (n : Int) (w : World) (h1 : -9223372036854775808 ≤ n) (h2 : n ≤ 9223372036854775807) :
    Calls Tryz.prog 37 #[.int .i64 n] w fun e w' => ∃ x, e = .returned x ∧ IsInt w' x n ∧ Below w.heap.size w w' := by
  by_cases hneg : n < 0
  · exact from_core n n.natAbs true w (by omega) rfl (by simp [hneg]) (.inl ⟨rfl, hneg, by rw [IntKind.wrap_u64, IntKind.wrap_u64]; omega⟩)
  · exact from_core n n.natAbs false w (by omega) rfl (by simp [hneg]) (.inr ⟨rfl, by omega⟩)

theorem to_is (x : Value) (z : Int) (w : World) (h : IsInt w x z) : Calls Tryz.prog 83 #[x] w (ToPost w z) := by
  obtain ⟨s, ao, n, cap, l, rfl, R, g, rfl⟩ := h.open_
  exact to_any s ao n cap l w R g
theorem rto_is (x : Value) (z : Int) (w : World) (h : IsInt w x z) : Calls Tryz.prog 60 #[x] w (ToPost w z) := by
  obtain ⟨s, ao, n, cap, l, rfl, R, g, rfl⟩ := h.open_
  exact rto_any s ao n cap l w R g

end Go.Proofs.YtdekkieajffblaaGreat
