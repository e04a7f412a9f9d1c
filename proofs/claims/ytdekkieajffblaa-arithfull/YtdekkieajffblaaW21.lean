/-
  Walks: sign, Cmp, Neg, of the program and of the document's answer.
-/
import Derived.Test.YtdekkieajffblaaX1
import Derived.Laws.BitsAllLaws
import Derived.Test.YtdekkieajffblaaG0
import Derived.Deep.RegionLaw
set_option linter.unusedVariables false
set_option linter.unusedSimpArgs false
namespace Go.Proofs.Ytdekkieajffblaa
open Go.RowKit

theorem u64_nat {x : Int} (h : U64 x) : ∃ a : Nat, x = (a : Int) ∧ a < 18446744073709551616 := ⟨x.toNat, by unfold U64 at h; omega, by unfold U64 at h; omega⟩
theorem u64_or_nat (a b : Nat) (ha : a < 18446744073709551616) (hb : b < 18446744073709551616) : bits .or .u64 (a : Int) (b : Int) = ((a ||| b : Nat) : Int) := by
  have hx : a ||| b < 2 ^ 64 := Nat.or_lt_two_pow (by omega) (by omega)
  have h1 : (BitVec.ofInt 64 (a : Int)).toNat = a := by
    rw [BitVec.ofInt_natCast, BitVec.toNat_ofNat]; exact Nat.mod_eq_of_lt (by omega)
  have h2 : (BitVec.ofInt 64 (b : Int)).toNat = b := by
    rw [BitVec.ofInt_natCast, BitVec.toNat_ofNat]; exact Nat.mod_eq_of_lt (by omega)
  show IntKind.u64.wrap ((BitVec.ofInt 64 (a : Int) ||| BitVec.ofInt 64 (b : Int)).toNat : Int) = _
  rw [BitVec.toNat_or, h1, h2, IntKind.wrap_u64]
  omega
theorem u64_and_nat (a b : Nat) (ha : a < 18446744073709551616) (hb : b < 18446744073709551616) : bits .and .u64 (a : Int) (b : Int) = ((a &&& b : Nat) : Int) := by
  have hx : a &&& b ≤ a := Nat.and_le_left
  have h1 : (BitVec.ofInt 64 (a : Int)).toNat = a := by
    rw [BitVec.ofInt_natCast, BitVec.toNat_ofNat]; exact Nat.mod_eq_of_lt (by omega)
  have h2 : (BitVec.ofInt 64 (b : Int)).toNat = b := by
    rw [BitVec.ofInt_natCast, BitVec.toNat_ofNat]; exact Nat.mod_eq_of_lt (by omega)
  show IntKind.u64.wrap ((BitVec.ofInt 64 (a : Int) &&& BitVec.ofInt 64 (b : Int)).toNat : Int) = _
  rw [BitVec.toNat_and, h1, h2, IntKind.wrap_u64]
  omega
theorem nat_or_join (k a b : Nat) (hb : b < 2 ^ k) : a * 2 ^ k ||| b = a * 2 ^ k + b := by
  rw [Nat.mul_comm, Nat.two_pow_add_eq_or_of_lt hb]
/-- What is put below a number that is shifted up. -/
theorem u64_or (k : Nat) {x b : Int} (hx : U64 x) (hd : ∃ a : Nat, x = (a : Int) * 2 ^ k) (hb0 : 0 ≤ b) (hb : b < 2 ^ k) (hb2 : b < 18446744073709551616) : bits .or .u64 x b = x + b := by
  obtain ⟨a, rfl⟩ := hd
  obtain ⟨m, rfl⟩ : ∃ m : Nat, b = (m : Int) := ⟨b.toNat, by omega⟩
  have e : ((a : Int) * 2 ^ k) = ((a * 2 ^ k : Nat) : Int) := by push_cast; rfl
  rw [e] at hx ⊢
  unfold U64 at hx
  rw [u64_or_nat _ _ (by omega) (by omega), nat_or_join k a m (by exact_mod_cast hb)]
  push_cast; rfl
/-- The lowest bits. -/
theorem u64_and (k : Nat) {x : Int} (hx : U64 x) (hk : 2 ^ k ≤ 18446744073709551616) : bits .and .u64 x ((2 ^ k - 1 : Nat) : Int) = x % ((2 ^ k : Nat) : Int) := by
  obtain ⟨a, rfl, ha⟩ := u64_nat hx
  have h0 : 0 < 2 ^ k := Nat.two_pow_pos k
  rw [u64_and_nat a (2 ^ k - 1) ha (by omega), Nat.and_two_pow_sub_one_eq_mod]
  rfl
theorem and7 {x : Int} (hx : U64 x) : bits .and .u64 x 7 = x % 8 := u64_and 3 hx (by decide)
theorem and31w {x : Int} (hx : U64 x) : bits .and .u64 x 31 = x % 32 := u64_and 5 hx (by decide)
theorem and255w {x : Int} (hx : U64 x) : bits .and .u64 x 255 = x % 256 := u64_and 8 hx (by decide)
theorem or_low3 {x b : Int} (hx : U64 x) (hd : x % 8 = 0) (hb : 0 ≤ b ∧ b < 8) : bits .or .u64 x b = x + b :=
  u64_or 3 hx ⟨(x / 8).toNat, by unfold U64 at hx; omega⟩ hb.1 (by omega) (by omega)
theorem or_low8 {x b : Int} (hx : U64 x) (hd : x % 256 = 0) (hb : 0 ≤ b ∧ b < 256) : bits .or .u64 x b = x + b :=
  u64_or 8 hx ⟨(x / 256).toNat, by unfold U64 at hx; omega⟩ hb.1 (by omega) (by omega)
theorem or_low11 {x b : Int} (hx : U64 x) (hd : x % 2048 = 0) (hb : 0 ≤ b ∧ b < 2048) : bits .or .u64 x b = x + b :=
  u64_or 11 hx ⟨(x / 2048).toNat, by unfold U64 at hx; omega⟩ hb.1 (by omega) (by omega)
end Go.Proofs.Ytdekkieajffblaa

set_option linter.unusedVariables false
set_option linter.unusedSimpArgs false
namespace Go.Proofs.Ytdekkieajffblaa
open Go.RowKit

theorem keepb {wx wy : World} {p : Nat} {u v : Value} (h : wx.cell? ⟨p, 0, none⟩ = some u ∧ wx.cell? ⟨p, 1, none⟩ = some v) (hb : Below wx.heap.size wx wy) : wy.cell? ⟨p, 0, none⟩ = some u ∧ wy.cell? ⟨p, 1, none⟩ = some v :=
  ⟨(hb.cell (p := ⟨p, 0, none⟩) (cell_lt h.1)).trans h.1, (hb.cell (p := ⟨p, 1, none⟩) (cell_lt h.1)).trans h.2⟩
theorem keepbs {wx : World} {p s : Nat} {u v u' v' : Value} (h : wx.cell? ⟨p, 0, none⟩ = some u ∧ wx.cell? ⟨p, 1, none⟩ = some v) (hp : p ≠ s) :
    ((wx.setCell ⟨s, 0, none⟩ u').setCell ⟨s, 1, none⟩ v').cell? ⟨p, 0, none⟩ = some u ∧ ((wx.setCell ⟨s, 0, none⟩ u').setCell ⟨s, 1, none⟩ v').cell? ⟨p, 1, none⟩ = some v :=
  ⟨(World.cell?_of_block (w := wx) (a := ⟨p, 0, none⟩) ((Below.heap_setCell _ _ _ _ hp).trans (Below.heap_setCell _ _ _ _ hp))).trans h.1, (World.cell?_of_block (w := wx) (a := ⟨p, 1, none⟩) ((Below.heap_setCell _ _ _ _ hp).trans (Below.heap_setCell _ _ _ _ hp))).trans h.2⟩

/-- What a turned sign is. -/
theorem sgn_neg (s : Bool) (v : Nat) : sgn (!s) v = - sgn s v := by cases s <;> simp [sgn]

set_option maxHeartbeats 2000000 in
theorem neg_any (neg : Bool) (ao : Option Addr) (n cap : Nat) (l : List Nat) (w : World) (R : Row .u32 B32 w ao n cap l) (g1 : goodB neg l = true) :
    Calls Try.prog 46 #[.agg #[.bool neg, .slice ao n cap]] w fun e w' => ∃ x, e = .returned x ∧ IsInt w' x (- sgn neg (val B32 l)) ∧ Below w.heap.size w w' := by
  have HR := hid R
  have G1 := hid g1
  have hn40 : n ≤ 40 := by rw [← R.len]; exact goodB_len g1
  clear R g1
  go_enter Try.func46, Try.ntmps46
  go_wp2_with fail
  have x1 := (Box.new 24 w neg ao n cap).alloc (.cells #[.bool false, .slice none 0 0] 24)
  have x2 := Box.new 24 (w.alloc (.cells #[.bool neg, .slice ao n cap] 24)) false none 0 0
  rw [size_alloc] at x2
  have b0 := Baa w (.cells #[.bool neg, .slice ao n cap] 24) (.cells #[.bool false, .slice none 0 0] 24)
  generalize hW : ((w.alloc (.cells #[.bool neg, .slice ao n cap] 24)).alloc (.cells #[.bool false, .slice none 0 0] 24)) = W at *
  clear hW
  refine (good_any neg ao n cap l W (HR.out.below b0)).mono ?_
  rintro e w1 ⟨rfl, b1⟩
  rw [G1.out]
  have X1 := hid (x1.on b1)
  have X2 := hid (x2.on b1)
  have HB1 := hid (Bt b0 b1)
  obtain ⟨c10, c11⟩ := X1.out.c
  have RW := hid (HR.out.below HB1.out)
  clear x1 x2 b0 b1 HR
  have hS : w1.cell? ⟨w.heap.size, 0, none⟩ = some (.bool neg) ∧ w1.cell? ⟨w.heap.size, 1, none⟩ = some (.slice ao n cap) := ⟨c10, c11⟩
  go_wp2
  go_region_held3 (fun wx => wx.cell? ⟨w.heap.size, 0, none⟩ = some (.bool neg) ∧ wx.cell? ⟨w.heap.size, 1, none⟩ = some (.slice ao n cap))
    (first | exact ⟨c10, c11⟩ | exact keepb (by assumption) (by assumption) | exact keepbs (by assumption) (by omega))
    (first
      | (go_at_call 69; refine (clone_any ao n cap l _ ?_ (by omega)).mono ?_; (exact RW.out.below (Bd w1 1)); rintro e wa ⟨ao2, cap2, rfl, hO, ba⟩; have HO := hid hO; clear hO)
      | (go_at_call 49; refine (whole_any (!neg) ao2 n cap2 l _ ?_).mono ?_; (exact HO.out.row); rintro e wb ⟨x, lr, rfl, hIr, htr, hvr2, hlr, bb⟩; have hIs := is_mk hIr htr (by rw [hvr2]; exact good_small RW.out G1.out); rw [hvr2, sgn_neg] at hIs; obtain ⟨sx, ax, nx, cx, lx, rfl, Rx, gx, hzx⟩ := hIs.open_; have Z := (X2.out.on (Bd w1 1)).on ba; have Z2 := Z.on bb; obtain ⟨z0, z1⟩ := Z2.c; obtain ⟨f0, f1⟩ := Z2.f; have HZ := hid Z2; have HRx := hid Rx; have HGx := hid (And.intro gx hzx); clear hIr htr hvr2 hlr hIs Rx gx hzx Z Z2))
  have hbW : Below w.heap.size w wb := Bt (Bt (Bt HB1.out (Bd w1 1)) ba) bb
  have z := HZ.out.set2 sx ax nx cx
  obtain ⟨y0, y1⟩ := z.c
  have rx := HRx.out.setBox2 HZ.out sx (.slice ax nx cx)
  have bF := (hbW.setCell (p := ⟨w.heap.size + 1, 0, none⟩) (by simp) (.bool sx)).setCell (p := ⟨w.heap.size + 1, 1, none⟩) (by simp) (.slice ax nx cx)
  rename_i hHeld
  clear hHeld
  go_wp2
  exact bodyPost_ret (v := .agg #[.bool sx, .slice ax nx cx]) (by simp [results, Try.results46, go_sem, y0, y1]) rfl ⟨_, rfl, ⟨sx, lx, ⟨ax, nx, cx, rfl, rx⟩, HGx.out.1, HGx.out.2⟩, bF⟩

end Go.Proofs.Ytdekkieajffblaa
