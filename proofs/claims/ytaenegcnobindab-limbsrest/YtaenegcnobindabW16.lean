/-
  Walks: the examples of the chapter (awake).
-/
import Derived.Test.YtaenegcnobindabW15
set_option linter.unusedVariables false
set_option linter.unusedSimpArgs false
namespace Go.Proofs.Ytaenegcnobindab
open Go.RowKit

theorem same_true (x y : Value) (a : Int) (w : World) (hx : IsInt w x a) (hy : IsInt w y a) :
    Calls Try.prog 13 #[x, y] w fun e w' => e = .returned (.bool true) ∧ Below w.heap.size w w' :=
  (same_is x y a a w hx hy).mono fun e w' ⟨h1, h2⟩ => ⟨by rw [h1]; simp, h2⟩
theorem zero_is (w : World) : IsInt w (.agg #[.bool false, .slice none 0 0]) 0 := ⟨false, [], ⟨none, 0, 0, rfl, Row.nil _ _ _ _⟩, rfl, rfl⟩

theorem map_toNat_inj : ∀ {a b : List UInt8}, a.map UInt8.toNat = b.map UInt8.toNat → a = b
  | [], [], _ => rfl
  | [], _ :: _, h => by simp at h
  | _ :: _, [], h => by simp at h
  | x :: a, y :: b, h => by
    simp only [List.map_cons, List.cons.injEq] at h
    rw [UInt8.toNat_inj.1 h.1, map_toNat_inj h.2]
theorem bs_inj {s : ByteArray} {l : List UInt8} (h : bs s = l.map UInt8.toNat) : s.toList = l := by
  rw [Lib.toList_data]
  exact map_toNat_inj h

/-- Of 255 in radix 16. -/
theorem print_ff (x : Value) (w : World) (hx : IsInt w x 255) :
    Calls Try.prog 17 #[x, .int .i64 16] w fun e w' => ∃ s : ByteArray, e = .returned (.tuple #[.string s, .int .i64 0]) ∧ s.toList = [102, 102] ∧ Below w.heap.size w w' := by
  obtain ⟨sg, ao, n, cap, l, rfl, R, g, hz⟩ := hx.open_
  have hs : sg = false ∧ val B32 l = 255 := by
    cases sg <;> simp [sgn] at hz ⊢ <;> omega
  obtain ⟨rfl, hv⟩ := hs
  have hn : n ≠ 0 := by
    intro e
    have : l = [] := List.length_eq_zero_iff.1 (by rw [R.len, e])
    subst this
    simp [val] at hv
  refine (print_any false ao n cap l 16 w R g (by omega) (by omega) hn).mono ?_
  rintro e w' ⟨s, D, rfl, hD, hT, hV, hbs, hb⟩
  refine ⟨s, rfl, ?_, hb⟩
  have hD2 : D = [15, 15] := by
    refine eq_of_val (B := 16) (by omega) hD ?_ hT ?_ ?_
    · intro x hx; simp at hx; omega
    · exact .inr (by simp)
    · rw [hV, hv]; rfl
  subst hD2
  apply bs_inj
  rw [hbs]; rfl

theorem parse_m0 (w : World) :
    Calls Try.prog 19 #[.string ⟨#[45, 48]⟩, .int .i64 10] w fun e w' => ∃ x, e = .returned (.tuple #[x, .int .i64 0]) ∧ IsInt w' x 0 ∧ Below w.heap.size w w' := by
  refine (parse_any ⟨#[45, 48]⟩ 10 w (by decide)).mono ?_
  rintro e w' ⟨x, en, rfl, hb, h⟩
  have e1 : bs ⟨#[45, 48]⟩ = [45, 48] := rfl
  rw [e1] at h
  have e2 : cutS [45, 48] = (true, [48]) := rfl
  rw [e2] at h
  rcases h with ⟨h, _⟩ | ⟨_, h, _⟩ | ⟨_, _, h⟩
  · exact absurd ⟨by omega, by omega⟩ h
  · exact absurd h (by decide)
  · have e3 : hv (10 : Int).toNat [48] = 0 := rfl
    rw [e3] at h
    rcases h with ⟨h1, rfl, l, hI, ht, hv⟩ | ⟨hbig, _⟩
    · refine ⟨x, rfl, ?_, hb⟩
      have := is_mk hI ht (by rw [hv]; exact h1)
      rw [hv] at this
      exact this
    · exact absurd hbig (not_big_64 0 (by omega))

theorem parse_1a (w : World) :
    Calls Try.prog 19 #[.string ⟨#[49, 97]⟩, .int .i64 10] w fun e w' => e = .returned (.tuple #[.agg #[.bool false, .slice none 0 0], .int .i64 12]) ∧ Below w.heap.size w w' := by
  refine (parse_any ⟨#[49, 97]⟩ 10 w (by decide)).mono ?_
  rintro e w' ⟨x, en, rfl, hb, h⟩
  have e1 : bs ⟨#[49, 97]⟩ = [49, 97] := rfl
  rw [e1] at h
  have e2 : cutS [49, 97] = (false, [49, 97]) := rfl
  rw [e2] at h
  rcases h with ⟨h, _⟩ | ⟨_, _, rfl, rfl⟩ | ⟨_, h, _⟩
  · exact absurd ⟨by omega, by omega⟩ h
  · exact ⟨rfl, hb⟩
  · exact absurd h (by decide)

theorem six_on {W wx wy : World} {p q r : Nat} {a0 a1 b0 b1 c0 c1 : Value}
    (h : wx.cell? ⟨p, 0, none⟩ = some a0 ∧ wx.cell? ⟨p, 1, none⟩ = some a1 ∧ wx.cell? ⟨q, 0, none⟩ = some b0 ∧ wx.cell? ⟨q, 1, none⟩ = some b1 ∧ wx.cell? ⟨r, 0, none⟩ = some c0 ∧ wx.cell? ⟨r, 1, none⟩ = some c1 ∧ Below W.heap.size W wx) (hb : Below wx.heap.size wx wy) :
    wy.cell? ⟨p, 0, none⟩ = some a0 ∧ wy.cell? ⟨p, 1, none⟩ = some a1 ∧ wy.cell? ⟨q, 0, none⟩ = some b0 ∧ wy.cell? ⟨q, 1, none⟩ = some b1 ∧ wy.cell? ⟨r, 0, none⟩ = some c0 ∧ wy.cell? ⟨r, 1, none⟩ = some c1 ∧ Below W.heap.size W wy := by
  obtain ⟨h1, h2, h3, h4, h5, h6, h7⟩ := h
  exact ⟨(hb.cell (p := ⟨p, 0, none⟩) (cell_lt h1)).trans h1, (hb.cell (p := ⟨p, 1, none⟩) (cell_lt h1)).trans h2, (hb.cell (p := ⟨q, 0, none⟩) (cell_lt h3)).trans h3, (hb.cell (p := ⟨q, 1, none⟩) (cell_lt h3)).trans h4, (hb.cell (p := ⟨r, 0, none⟩) (cell_lt h5)).trans h5, (hb.cell (p := ⟨r, 1, none⟩) (cell_lt h5)).trans h6, Bt h7 hb⟩
theorem six_bel {W wx : World} {p q r : Nat} {a0 a1 b0 b1 c0 c1 : Value}
    (h : wx.cell? ⟨p, 0, none⟩ = some a0 ∧ wx.cell? ⟨p, 1, none⟩ = some a1 ∧ wx.cell? ⟨q, 0, none⟩ = some b0 ∧ wx.cell? ⟨q, 1, none⟩ = some b1 ∧ wx.cell? ⟨r, 0, none⟩ = some c0 ∧ wx.cell? ⟨r, 1, none⟩ = some c1 ∧ Below W.heap.size W wx) : Below W.heap.size W wx := h.2.2.2.2.2.2

set_option maxHeartbeats 4000000 in
theorem awake_any (w : World) : Calls Try.prog 9 #[] w fun e w' => e = .returned (.bool true) ∧ Below w.heap.size w w' := by
  go_enter Try.func9, Try.ntmps9
  go_wp2_with fail
  refine (rfrom_is (-7) _ (by decide) (by decide)).mono ?_
  rintro e w1 ⟨x7, rfl, i7, b1⟩
  go_wp2_with fail
  refine (rfrom_is 2 _ (by decide) (by decide)).mono ?_
  rintro e w2 ⟨x2, rfl, i2, b2⟩
  go_wp2_with fail
  refine (div_is x7 x2 (-7) 2 w2 (i7.below b2) i2 (by decide) (long_small i2 (by decide))).mono ?_
  rintro e w3 ⟨xq, xr, rfl, iq, ir, b3⟩
  obtain ⟨sq, aq, nq, cq, lq, rfl, Rq, gq, hzq⟩ := iq.open_
  obtain ⟨sr, ar, nr, cr, lr, rfl, Rr, gr, hzr⟩ := ir.open_
  have HQ : Hid (IsInt w3 (.agg #[.bool sq, .slice aq nq cq]) (-3)) := iq
  have HR : Hid (IsInt w3 (.agg #[.bool sr, .slice ar nr cr]) (-1)) := ir
  have HB3 := hid (Bt (Bt b1 b2) b3)
  clear i7 i2 iq ir b1 b2 b3 Rq Rr gq gr hzq hzr
  go_wp2_with fail
  have Y1 := (Box.new 24 w3 sq aq nq cq).alloc (.cells #[.bool sr, .slice ar nr cr] 24)
  have Y2 := Box.new 24 (w3.alloc (.cells #[.bool sq, .slice aq nq cq] 24)) sr ar nr cr
  rw [size_alloc] at Y2
  have b4 := Baa w3 (.cells #[.bool sq, .slice aq nq cq] 24) (.cells #[.bool sr, .slice ar nr cr] 24)
  generalize hW4 : (w3.alloc (.cells #[.bool sq, .slice aq nq cq] 24)).alloc (.cells #[.bool sr, .slice ar nr cr] 24) = W4 at *
  clear hW4
  have Q4 := hid (HQ.out.below b4)
  have R4 := hid (HR.out.below b4)
  have HB4 := hid (Bt HB3.out b4)
  refine (rfrom_is 255 W4 (by decide) (by decide)).mono ?_
  rintro e w5 ⟨x255, rfl, i255, b5⟩
  have Z1 := hid (Y1.on b5)
  have Z2 := hid (Y2.on b5)
  have Q5 := hid (Q4.out.below b5)
  have R5 := hid (R4.out.below b5)
  have HB5 := hid (Bt HB4.out b5)
  have I255 := hid i255
  clear Y1 Y2 b4 b5 i255 Q4 R4 HB4 HQ HR HB3
  go_wp2_with fail
  refine (print_ff x255 w5 I255.out).mono ?_
  rintro e w6 ⟨S, rfl, hS, b6⟩
  have Y1 := hid (Z1.out.on b6)
  have Y2 := hid (Z2.out.on b6)
  have Q6 := hid (Q5.out.below b6)
  have R6 := hid (R5.out.below b6)
  have HB6 := hid (Bt HB5.out b6)
  clear b6 Z1 Z2 Q5 R5 HB5 I255
  go_wp2_with fail
  refine (parse_m0 w6).mono ?_
  rintro e w7 ⟨xz, rfl, iz, b7⟩
  obtain ⟨sz, az, nz, cz, lz, rfl, Rz, gz, hzz⟩ := iz.open_
  have Z1 := hid (Y1.out.on b7)
  have Z2 := hid (Y2.out.on b7)
  have Q7 := hid (Q6.out.below b7)
  have R7 := hid (R6.out.below b7)
  have HB7 := hid (Bt HB6.out b7)
  have I7 := hid iz
  clear b7 Y1 Y2 Q6 R6 HB6 Rz gz hzz iz
  go_wp2_with fail
  have y3 := Box.new 24 w7 sz az nz cz
  have b8 := Ba w7 (.cells #[.bool sz, .slice az nz cz] 24)
  have y1 := Z1.out.on b8
  have y2 := Z2.out.on b8
  generalize hW8 : w7.alloc (.cells #[.bool sz, .slice az nz cz] 24) = W8 at *
  clear hW8
  refine (parse_1a W8).mono ?_
  rintro e w9 ⟨rfl, b9⟩
  have X1 := hid (y1.on b9)
  have X2 := hid (y2.on b9)
  have X3 := hid (y3.on b9)
  have b89 := Bt b8 b9
  have Q9 := hid (Q7.out.below b89)
  have R9 := hid (R7.out.below b89)
  have I9 := hid (I7.out.below b89)
  have HB9 := hid (Bt HB7.out b89)
  clear y1 y2 y3 b8 b9 b89 Z1 Z2 Q7 R7 I7 HB7
  go_wp2
  have bW := Ba w9 (.cells #[.bool false, .slice none 0 0] 24)
  have y1 := (X1.out.on bW).c
  have y2 := (X2.out.on bW).c
  have y3 := (X3.out.on bW).c
  have QW := hid (Q9.out.below bW)
  have RW := hid (R9.out.below bW)
  have IW := hid (I9.out.below bW)
  have HBW := hid (Bt HB9.out bW)
  generalize hW : w9.alloc (.cells #[.bool false, .slice none 0 0] 24) = W at *
  clear hW bW X1 X2 X3 Q9 R9 I9 HB9
  have hS0 : W.cell? ⟨w3.heap.size, 0, none⟩ = some (.bool sq) ∧ W.cell? ⟨w3.heap.size, 1, none⟩ = some (.slice aq nq cq) ∧ W.cell? ⟨w3.heap.size + 1, 0, none⟩ = some (.bool sr) ∧ W.cell? ⟨w3.heap.size + 1, 1, none⟩ = some (.slice ar nr cr) ∧ W.cell? ⟨w7.heap.size, 0, none⟩ = some (.bool sz) ∧ W.cell? ⟨w7.heap.size, 1, none⟩ = some (.slice az nz cz) ∧ Below W.heap.size W W := ⟨y1.1, y1.2, y2.1, y2.2, y3.1, y3.2, Below.refl _ _⟩
  have HS0 := hid hS0
  clear y1 y2 y3 hS0
  have tok1 : True := trivial
  go_region_held3 (fun wx => wx.cell? ⟨w3.heap.size, 0, none⟩ = some (.bool sq) ∧ wx.cell? ⟨w3.heap.size, 1, none⟩ = some (.slice aq nq cq) ∧ wx.cell? ⟨w3.heap.size + 1, 0, none⟩ = some (.bool sr) ∧ wx.cell? ⟨w3.heap.size + 1, 1, none⟩ = some (.slice ar nr cr) ∧ wx.cell? ⟨w7.heap.size, 0, none⟩ = some (.bool sz) ∧ wx.cell? ⟨w7.heap.size, 1, none⟩ = some (.slice az nz cz) ∧ Below W.heap.size W wx)
    (first | exact six_on HS0.out (Bd W 1) | exact six_on (by assumption) (by assumption))
    (first
      | (go_at_call 22; have _t := tok1; refine (rfrom_is (-3) _ (by decide) (by decide)).mono ?_; rintro e wa ⟨x3, rfl, i3, ba⟩; have I3 := hid i3; clear i3 tok1)
      | (go_at_call 22; refine (rfrom_is (-1) _ (by decide) (by decide)).mono ?_; rintro e wc ⟨x1, rfl, i1, bc⟩; have I1 := hid i1; clear i1)
      | (go_at_call_of 13 x3; refine (same_true _ x3 (-3) _ ?_ I3.out).mono ?_; (exact QW.out.below (six_bel (p := w3.heap.size) (q := w3.heap.size + 1) (r := w7.heap.size) (a0 := .bool sq) (a1 := .slice aq nq cq) (b0 := .bool sr) (b1 := .slice ar nr cr) (c0 := .bool sz) (c1 := .slice az nz cz) (by assumption))); rintro e wb ⟨rfl, bb⟩)
      | (go_at_call_of 13 x1; refine (same_true _ x1 (-1) _ ?_ I1.out).mono ?_; (exact RW.out.below (six_bel (p := w3.heap.size) (q := w3.heap.size + 1) (r := w7.heap.size) (a0 := .bool sq) (a1 := .slice aq nq cq) (b0 := .bool sr) (b1 := .slice ar nr cr) (c0 := .bool sz) (c1 := .slice az nz cz) (by assumption))); rintro e wd ⟨rfl, bd⟩)
      | (go_at_call_of 13 (Value.slice az nz cz); refine (same_true _ _ 0 _ ?_ (zero_is _)).mono ?_; (exact IW.out.below (six_bel (p := w3.heap.size) (q := w3.heap.size + 1) (r := w7.heap.size) (a0 := .bool sq) (a1 := .slice aq nq cq) (b0 := .bool sr) (b1 := .slice ar nr cr) (c0 := .bool sz) (c1 := .slice az nz cz) (by assumption))); rintro e we ⟨rfl, be⟩))
  have HBE : Hid (Below w.heap.size w we) := Bt HBW.out (six_bel (p := w3.heap.size) (q := w3.heap.size + 1) (r := w7.heap.size) (a0 := .bool sq) (a1 := .slice aq nq cq) (b0 := .bool sr) (b1 := .slice ar nr cr) (c0 := .bool sz) (c1 := .slice az nz cz) (by assumption))
  rename_i hHeld
  clear hHeld
  go_wp2
  go_ret
  exact ⟨rfl, HBE.out⟩

end Go.Proofs.Ytaenegcnobindab
