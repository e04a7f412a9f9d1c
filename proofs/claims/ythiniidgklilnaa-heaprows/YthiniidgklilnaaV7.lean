/-
  Walks: target, few.
-/
import Derived.Test.YthiniidgklilnaaV6
set_option linter.unusedVariables false
set_option linter.unusedSimpArgs false
set_option maxRecDepth 100000
namespace Go.Proofs.Ythiniidgklilnaa
open Go.RowKit

/-- A deed. -/
structure Dd where
  kind : Int
  type : Int
  n : Int
  at_ : Int
  l : List Int
  w : Int
  w2 : Int
  raw : Bool
deriving Inhabited
structure DOk (d : Dd) : Prop where
  kind : Z64 d.kind
  type : Z64 d.type
  n : Z64 d.n
  at_ : Z64 d.at_
  w : U64 d.w
  w2 : U64 d.w2
def DCells (d : Dd) (s : Sl) : Array Value := #[.int .i64 d.kind, .int .i64 d.type, .int .i64 d.n, .int .i64 d.at_, .slice s.1 s.2.1 s.2.2, .int .u64 d.w, .int .u64 d.w2, .bool d.raw]
/-- The object that is meant, counted round. -/
def roundI (at_ : Int) (n : Nat) : Nat := (Int.tmod (Int.tmod at_ n + n) n).toNat
theorem round_at {n : Nat} (hn : 0 < n) (b : Int) : roundI b n < n ∧ Int.tmod (Int.tmod b n + n) n = (roundI b n : Int) := by
  have h1 : (Int.tmod b n).natAbs < n := by
    rw [Int.natAbs_tmod]; exact Nat.mod_lt _ (by omega)
  have h2 : 0 ≤ Int.tmod b n + n := by omega
  have h3 : Int.tmod (Int.tmod b n + n) n = (Int.tmod b n + n) % n := Int.tmod_eq_emod_of_nonneg h2
  have h4 := Int.emod_nonneg (Int.tmod b n + n) (by omega : (n : Int) ≠ 0)
  have h5 := Int.emod_lt_of_pos (Int.tmod b n + n) (by omega : (0 : Int) < n)
  unfold roundI
  constructor <;> omega
def targetM (os : List Ob) (d : Dd) : Int := if d.raw = true ∨ os.length = 0 then d.w2 else wordR 2 (atO os (roundI d.at_ os.length) : Nat) 0
theorem target_u64 {os : List Ob} {d : Dd} (hd : DOk d) : U64 (targetM os d) := by
  unfold targetM
  split
  · exact hd.w2
  · exact wordR_rng _ _ _
theorem h3b_on {w1 wx wy : World} {p q r s : Nat} {a0 a1 a2 : Value} (h : wx.cell? ⟨p, 1, none⟩ = some a0 ∧ wx.cell? ⟨q, 3, none⟩ = some a1 ∧ wx.cell? ⟨r, s, none⟩ = some a2 ∧ Below w1.heap.size w1 wx) (hb : Below wx.heap.size wx wy) : wy.cell? ⟨p, 1, none⟩ = some a0 ∧ wy.cell? ⟨q, 3, none⟩ = some a1 ∧ wy.cell? ⟨r, s, none⟩ = some a2 ∧ Below w1.heap.size w1 wy :=
  ⟨(hb.cell (p := ⟨p, 1, none⟩) (cell_lt h.1)).trans h.1, (hb.cell (p := ⟨q, 3, none⟩) (cell_lt h.2.1)).trans h.2.1, (hb.cell (p := ⟨r, s, none⟩) (cell_lt h.2.2.1)).trans h.2.2.1, Bt h.2.2.2 hb⟩
theorem h3b_bel {w1 wx : World} {p q r s : Nat} {a0 a1 a2 : Value} (h : wx.cell? ⟨p, 1, none⟩ = some a0 ∧ wx.cell? ⟨q, 3, none⟩ = some a1 ∧ wx.cell? ⟨r, s, none⟩ = some a2 ∧ Below w1.heap.size w1 wx) : Below w1.heap.size w1 wx := h.2.2.2
set_option maxHeartbeats 8000000 in
theorem target_any {B g : Nat} {N : Int} {vL : Value} {ls : List (Ob × Sl)} (d : Dd) (s : Sl) (hd : DOk d) (w : World) (h : RH B g N vL ls w) :
    Calls Try.prog 18 #[.pointer (some ⟨g, 0, none⟩), .agg (DCells d s)] w fun e w' => e = .returned (.int .u64 (targetM (ls.map Prod.fst) d)) ∧ Below w.heap.size w w' := by
  have H := hid h
  have hlen : ls.length ≤ 1099511627776 := by have := len_le_used (ls.map Prod.fst); have := h.room; rw [List.length_map] at *; omega
  have hat := hd.at_
  unfold Z64 at hat
  have HT : Hid (targetM (ls.map Prod.fst) d = if d.raw = true ∨ ls.length = 0 then d.w2 else wordR 2 (atI ls (roundI d.at_ ls.length) : Nat) 0) := by unfold Hid targetM; rw [List.length_map, ← atI_eq]
  obtain ⟨dk, dt, dn, da, dl, dw, dw2, dr⟩ := d
  obtain ⟨sa, sn, sc⟩ := s
  simp only at hat HT
  unfold DCells
  simp only
  have HB := hid (Ba w (.cells #[.int .i64 dk, .int .i64 dt, .int .i64 dn, .int .i64 da, .slice sa sn sc, .int .u64 dw, .int .u64 dw2, .bool dr] 36))
  have hx := blk_new w #[.int .i64 dk, .int .i64 dt, .int .i64 dn, .int .i64 da, .slice sa sn sc, .int .u64 dw, .int .u64 dw2, .bool dr] 36
  have HX := hid hx
  clear h hx
  obtain ⟨aL, nL, cL, rfl⟩ : ∃ aL nL cL, vL = .slice aL nL cL := by rcases H.out.own.2 with ⟨h, _⟩ | ⟨g, cap, cur, h, _⟩ <;> exact ⟨_, _, _, h⟩
  have hnL : nL = ls.length := by rcases H.out.own.2 with ⟨h, h'⟩ | ⟨g, cap, cur, h, _⟩ <;> cases h <;> first | rfl | omega
  subst hnL
  have HW := hid (H.out.on HB.out)
  have c1 : (w.alloc (.cells #[.int .i64 dk, .int .i64 dt, .int .i64 dn, .int .i64 da, .slice sa sn sc, .int .u64 dw, .int .u64 dw2, .bool dr] 36)).cell? ⟨g, 1, none⟩ = some (.slice aL ls.length cL) := blk_cell HW.out.box 1
  cases dr
  · by_cases h0 : ls.length = 0
    · rw [HT.out, if_pos (.inr h0)]
      have e0 : ((ls.length : Int) == 0) = true := by simp [h0]
      clear HT
      go_enter Try.func18, Try.ntmps18
      go_wp2_with fail
      go_ret
      exact ⟨rfl, HB.out⟩
    · rw [HT.out, if_neg (by simp [h0])]
      have e0 : ((ls.length : Int) == 0) = false := by simp [h0]
      obtain ⟨hr1, hr2⟩ := round_at (n := ls.length) (by omega) da
      obtain ⟨q, hq⟩ : ∃ q, q = roundI da ls.length := ⟨_, rfl⟩
      rw [← hq] at hr1 hr2 ⊢
      have htm : (Int.tmod da ls.length).natAbs < ls.length := by rw [Int.natAbs_tmod]; exact Nat.mod_lt _ (by omega)
      obtain ⟨gl, cap, hv, hc1, hc2, j0, _⟩ := HW.out.obj hr1 rfl
      cases hv
      have hau : atI ls q ≤ 1099511627776 := by rw [atI_eq]; have := used_take_le (ls.map Prod.fst) q; have := H.out.room; omega
      have C1 := hid (rptr_any (atI ls q) hau)
      obtain ⟨A, hA⟩ : ∃ A, A = atI ls q := ⟨_, rfl⟩
      rw [← hA] at C1 j0 ⊢
      unfold maxLen at hc2
      have d3 : (w.alloc (.cells #[.int .i64 dk, .int .i64 dt, .int .i64 dn, .int .i64 da, .slice sa sn sc, .int .u64 dw, .int .u64 dw2, .bool false] 36)).cell? ⟨w.heap.size, 3, none⟩ = some (.int .i64 da) := blk_cell HX.out 3
      have hnz : (ls.length : Int) ≠ 0 := by omega
      have hw1 : IntKind.i64.wrap (Int.tmod da (ls.length : Int)) = Int.tmod da (ls.length : Int) := by rw [IntKind.wrap_i64]; omega
      have hw2 : IntKind.i64.wrap (Int.tmod da (ls.length : Int) + (ls.length : Int)) = Int.tmod da (ls.length : Int) + (ls.length : Int) := by rw [IntKind.wrap_i64]; omega
      have hw3 : wrap64 (Int.tmod da (ls.length : Int)) = Int.tmod da (ls.length : Int) := by unfold wrap64; omega
      have hw4 : wrap64 (Int.tmod da (ls.length : Int) + (ls.length : Int)) = Int.tmod da (ls.length : Int) + (ls.length : Int) := by unfold wrap64; omega
      have hq1 : ¬ (q : Int) < 0 := by omega
      have hq2 : ¬ (ls.length : Int) ≤ (q : Int) := by omega
      clear HT hq hau hA
      go_enter Try.func18, Try.ntmps18
      go_wp2_with fail
      obtain ⟨gx, hgx⟩ : ∃ q, q = w.heap.size := ⟨_, rfl⟩
      rw [← hgx] at d3
      rw [← hgx]
      have HBW := hid HB.out
      generalize w.alloc (.cells #[.int .i64 dk, .int .i64 dt, .int .i64 dn, .int .i64 da, .slice sa sn sc, .int .u64 dw, .int .u64 dw2, .bool false] 36) = W at *
      have HS0 : Hid (W.cell? ⟨g, 1, none⟩ = some (.slice (some ⟨gl, 0, none⟩) ls.length cL) ∧ W.cell? ⟨gx, 3, none⟩ = some (.int .i64 da) ∧ W.cell? ⟨gl, q * 3, none⟩ = some (.int .i64 (A : Nat)) ∧ Below W.heap.size W W) := ⟨c1, d3, j0, Below.refl _ _⟩
      clear c1 d3 j0 hgx
      go_region_held3 (fun wx => wx.cell? ⟨g, 1, none⟩ = some (.slice (some ⟨gl, 0, none⟩) ls.length cL) ∧ wx.cell? ⟨gx, 3, none⟩ = some (.int .i64 da) ∧ wx.cell? ⟨gl, q * 3, none⟩ = some (.int .i64 (A : Nat)) ∧ Below W.heap.size W wx)
        (first | exact h3b_on HS0.out (Bd W 1) | exact h3b_on (by assumption) (by assumption))
        (first | (go_at_call 32; with_reducible refine (C1.out _).mono ?_; rintro e wa ⟨rfl, ba⟩))
      rename_i hHeld
      have HBE := hid (Bt HBW.out hHeld.2.2.2)
      clear hHeld
      go_wp2
      go_ret
      exact ⟨rfl, HBE.out⟩
  · rw [HT.out, if_pos (.inl rfl)]
    clear HT
    go_enter Try.func18, Try.ntmps18
    go_wp2_with fail
    go_ret
    exact ⟨rfl, HB.out⟩
end Go.Proofs.Ythiniidgklilnaa
