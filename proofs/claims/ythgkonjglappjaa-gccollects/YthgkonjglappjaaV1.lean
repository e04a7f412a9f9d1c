/-
  Walks, of the document's heap: what only reads it.
-/
import Derived.Test.YthgkonjglappjaaV0
import Derived.Deep.RegionHeld3
import Derived.BigQuiet
import Derived.Deep.QuietTactic
set_option linter.unusedVariables false
set_option linter.unusedSimpArgs false
set_option maxRecDepth 100000
namespace Go.Proofs.Ythgkonjglappjaa
open Go.RowKit

def atO (os : List Ob) (i : Nat) : Nat := usedL (os.take i)
theorem atI_eq (ls : List (Ob × Sl)) (i : Nat) : atI ls i = atO (ls.map Prod.fst) i := by unfold atI atO; rw [List.map_take]
theorem getD_fst (ls : List (Ob × Sl)) (i : Nat) : (ls.getD i default).1 = (ls.map Prod.fst).getD i default := by
  rw [List.getD_eq_getElem?_getD, List.getD_eq_getElem?_getD, List.getElem?_map]
  cases h : ls[i]? <;> rfl
theorem used_last {os : List Ob} (h : 0 < os.length) : atO os (os.length - 1) + 1 + (os.getD (os.length - 1) default).f.length = usedL os := by
  have e : os = os.take (os.length - 1) ++ [os.getD (os.length - 1) default] := by
    conv => lhs; rw [← List.take_append_drop (os.length - 1) os]
    congr 1
    rw [List.drop_eq_getElem_cons (by omega), List.getD_eq_getElem?_getD, List.getElem?_eq_getElem (by omega)]
    rw [List.drop_eq_nil_of_le (by omega)]; rfl
  conv => rhs; rw [e, usedL_append]
  simp [usedL, atO]; omega
theorem used_take_le (os : List Ob) (i : Nat) : atO os i ≤ usedL os := by
  have : usedL os = usedL (os.take i) + usedL (os.drop i) := by rw [← usedL_append, List.take_append_drop]
  unfold atO; omega
theorem used_mem {os : List Ob} {x : Ob} (h : x ∈ os) : 1 + x.f.length ≤ usedL os := by
  induction os with
  | nil => cases h
  | cons y l ih =>
    rcases List.mem_cons.1 h with rfl | h
    · unfold usedL; omega
    · have := ih h; unfold usedL; omega
theorem len_le_used (os : List Ob) : os.length ≤ usedL os := by
  induction os with
  | nil => simp
  | cons x l ih => simp only [List.length_cons, usedL]; omega

theorem h2_on {w1 wx wy : World} {p : Nat} {a0 : Value} (h : wx.cell? ⟨p, 0, none⟩ = some a0 ∧ Below w1.heap.size w1 wx) (hb : Below wx.heap.size wx wy) : wy.cell? ⟨p, 0, none⟩ = some a0 ∧ Below w1.heap.size w1 wy := ⟨(hb.cell (p := ⟨p, 0, none⟩) (cell_lt h.1)).trans h.1, Bt h.2 hb⟩
theorem h2_bel {w1 wx : World} {p : Nat} {a0 : Value} (h : wx.cell? ⟨p, 0, none⟩ = some a0 ∧ Below w1.heap.size w1 wx) : Below w1.heap.size w1 wx := h.2
section
variable {B g : Nat} {N : Int} {vL : Value} {ls : List (Ob × Sl)}
set_option maxHeartbeats 4000000 in
theorem rused_any (w : World) (h : RH B g N vL ls w) : Calls Try.prog 68 #[.pointer (some ⟨g, 0, none⟩)] w fun e w' => e = .returned (.int .i64 (usedL (ls.map Prod.fst) : Nat)) ∧ Below w.heap.size w w' := by
  have H := hid h
  have c1 : w.cell? ⟨g, 1, none⟩ = some vL := blk_cell h.box 1
  have hrm := h.room
  by_cases h0 : ls.length = 0
  · rcases h.own.2 with ⟨rfl, _⟩ | ⟨gl, cap, cur, rfl, _⟩
    · clear h
      have hl : ls = [] := List.length_eq_zero_iff.1 h0
      subst hl
      go_enter Try.func68, Try.ntmps68
      go_wp2
      go_ret
      exact ⟨rfl, Below.refl _ _⟩
    · clear h
      have hl : ls = [] := List.length_eq_zero_iff.1 h0
      subst hl
      go_enter Try.func68, Try.ntmps68
      go_wp2
      go_ret
      exact ⟨rfl, Below.refl _ _⟩
  · obtain ⟨x, hx⟩ : ∃ x, x = ls.getD (ls.length - 1) default := ⟨_, rfl⟩
    obtain ⟨gl, cap, rfl, hc1, hc2, j0, j1, j2⟩ := h.obj (i := ls.length - 1) (by omega) hx
    have hmem : x ∈ ls := by rw [hx]; exact getD_in_ob (by omega)
    have hul := used_last (os := ls.map Prod.fst) (by rw [List.length_map]; omega)
    rw [List.length_map, ← atI_eq, ← getD_fst, ← hx] at hul
    have hxn := (h.rows x hmem).2
    obtain ⟨⟨xk, xf⟩, xa, xn, xc⟩ := x
    simp only at j0 j1 j2 hul hxn
    have hgl : g < w.heap.size := (Array.getElem?_eq_some_iff.1 h.box).1
    have hgl2 : gl < w.heap.size := cell_lt j0
    obtain ⟨m, hm⟩ : ∃ m, m = ls.length - 1 := ⟨_, rfl⟩
    rw [← hm] at j0 j1 j2 hul
    have hm' : ls.length = m + 1 := by omega
    have HLL := hid hm'
    unfold maxLen at hc2
    obtain ⟨am, ham⟩ : ∃ a, a = atI ls m := ⟨_, rfl⟩
    rw [← ham] at j0 hul
    obtain ⟨U, hU⟩ : ∃ u, u = usedL (ls.map Prod.fst) := ⟨_, rfl⟩
    rw [← hU] at hul hrm ⊢
    rw [hm'] at c1 hc1
    clear h H hx hmem hm ham hU h0
    generalize ls.length = LL at *
    have k0 : ∀ ob, (w.alloc ob).cell? ⟨g, 1, none⟩ = some (.slice (some ⟨gl, 0, none⟩) (m + 1) cap) := fun ob => (cell_old _ _ _ _ hgl).trans c1
    have k1 : ∀ ob, (w.alloc ob).cell? ⟨gl, m * 3, none⟩ = some (.int .i64 (am : Nat)) := fun ob => (cell_old _ _ _ _ hgl2).trans j0
    have k2 : ∀ ob, (w.alloc ob).cell? ⟨gl, m * 3 + 1, none⟩ = some (.int .i64 xk) := fun ob => (cell_old _ _ _ _ hgl2).trans j1
    have k3 : ∀ ob, (w.alloc ob).cell? ⟨gl, m * 3 + 2, none⟩ = some (.slice xa xn xc) := fun ob => (cell_old _ _ _ _ hgl2).trans j2
    go_enter Try.func68, Try.ntmps68
    go_wp2
    go_region
    go_wp2
    go_ret
    exact ⟨by rw [show ((U : Nat) : Int) = (am : Int) + 1 + xf.length by omega]; rfl, Bt (Ba w _) (Bd _ 1)⟩

set_option maxHeartbeats 4000000 in
theorem rroom_any (w : World) (h : RH B g N vL ls w) : Calls Try.prog 51 #[.pointer (some ⟨g, 0, none⟩)] w fun e w' => e = .returned (.int .i64 (N - (usedL (ls.map Prod.fst) : Nat))) ∧ Below w.heap.size w w' := by
  have H := hid h
  have hrm := h.room
  have c0 : w.cell? ⟨g, 0, none⟩ = some (.int .i64 N) := blk_cell h.box 0
  have hgl : g < w.heap.size := (Array.getElem?_eq_some_iff.1 h.box).1
  have C1 : Hid (∀ wx, Below w.heap.size w wx → Calls Try.prog 68 #[.pointer (some ⟨g, 0, none⟩)] wx fun e w' => e = .returned (.int .i64 (usedL (ls.map Prod.fst) : Nat)) ∧ Below wx.heap.size wx w') := fun wx b => rused_any wx (H.out.on b)
  obtain ⟨U, hU⟩ : ∃ u, u = usedL (ls.map Prod.fst) := ⟨_, rfl⟩
  rw [← hU] at C1 hrm ⊢
  clear h hU
  have HS0 : Hid (w.cell? ⟨g, 0, none⟩ = some (.int .i64 N) ∧ Below w.heap.size w w) := ⟨c0, Below.refl _ _⟩
  have hw1 : IntKind.i64.wrap (N - (U : Nat)) = N - (U : Nat) := by rw [IntKind.wrap_i64]; omega
  go_enter Try.func51, Try.ntmps51
  go_wp2_with fail
  go_region_held3 (fun wx => wx.cell? ⟨g, 0, none⟩ = some (.int .i64 N) ∧ Below w.heap.size w wx)
    (first | exact h2_on HS0.out (Bd w 1) | exact h2_on (by assumption) (by assumption))
    (first | (go_at_call 68; with_reducible refine (C1.out _ ?_).mono ?_; (exact h2_bel (p := g) (a0 := .int .i64 N) (by assumption)); rintro e wa ⟨rfl, ba⟩))
  have HBE : Hid (Below w.heap.size w wa) := h2_bel (p := g) (a0 := .int .i64 N) (by assumption)
  rename_i hHeld
  clear hHeld
  go_wp2
  go_ret
  exact ⟨rfl, HBE.out⟩
end

set_option maxHeartbeats 4000000 in
theorem ishead_any (x : Int) (hx : U64 x) (w : World) : Calls Try.prog 32 #[.int .u64 x] w fun e w' => e = .returned (.bool (decide ((ofR x).1 = 8))) ∧ Below w.heap.size w w' := by
  have C1 := hid (rof_any x hx)
  obtain ⟨o, ho⟩ : ∃ o, o = ofR x := ⟨_, rfl⟩
  rw [← ho] at C1 ⊢
  obtain ⟨k, n, t⟩ := o
  simp only at C1 ⊢
  unfold SVal at C1
  clear ho
  have hfd : ∀ w, (Instr.field 77 (.agg #[.int .i64 k, .int .i64 n, .int .i64 t]) 0).run Try.prog w = .ok (.int .i64 k) w := fun w => rfl
  go_enter Try.func32, Try.ntmps32
  go_wp2_with (go_at_call 53; with_reducible refine (C1.out _).mono ?_; rintro e wa ⟨rfl, ba⟩)
  go_ret
  refine ⟨?_, ba⟩
  by_cases hk : k = 8
  · subst hk; rfl
  · have e1 : (k == 8) = false := by simpa using hk
    simp [e1, hk]
set_option maxHeartbeats 4000000 in
theorem rptr_any (n : Nat) (hn : n ≤ 1099511627776) (w : World) : Calls Try.prog 23 #[.int .i64 n] w fun e w' => e = .returned (.int .u64 (wordR 2 n 0)) ∧ Below w.heap.size w w' := by
  have C1 := hid (rword_any 2 n 0 (by unfold Z64; omega) (by unfold Z64; omega) (by unfold Z64; omega))
  unfold SVal at C1
  go_enter Try.func23, Try.ntmps23
  go_wp2_with (go_at_call 40; with_reducible refine (C1.out _).mono ?_; rintro e wa ⟨rfl, ba⟩)
  go_ret
  exact ⟨rfl, ba⟩

/-- The first object at a place, from number i on. -/
def fnd (os : List Ob) (n : Int) (i : Nat) : Option Nat := if i < os.length then (if (atO os i : Int) = n then some i else fnd os n (i + 1)) else none
termination_by os.length - i
def findM (os : List Ob) (p : Int) : Option Nat := if (ofR p).1 = 2 then fnd os (ofR p).2.1 0 else none
def optI : Option Nat → Int
  | some i => i
  | none => -1
theorem fnd_lt {os : List Ob} {n : Int} {i j : Nat} (h : fnd os n i = some j) : j < os.length ∧ (atO os j : Int) = n := by
  induction hk : os.length - i generalizing i with
  | zero => rw [fnd, if_neg (by omega)] at h; cases h
  | succ k ih =>
    rw [fnd, if_pos (by omega)] at h
    split at h
    · injection h with h; subst h; exact ⟨by omega, by assumption⟩
    · exact ih h (by omega)
section
variable {B g : Nat} {N : Int} {vL : Value} {ls : List (Ob × Sl)}
set_option maxHeartbeats 4000000 in
theorem rfind_any (p : Int) (hp : U64 p) (w : World) (h : RH B g N vL ls w) : Calls Try.prog 45 #[.pointer (some ⟨g, 0, none⟩), .int .u64 p] w fun e w' => e = .returned (.int .i64 (optI (findM (ls.map Prod.fst) p))) ∧ Below w.heap.size w w' := by
  have H := hid h
  have C1 := hid (rof_any p hp)
  have hlen : ls.length ≤ 1099511627776 := by have := len_le_used (ls.map Prod.fst); have := h.room; rw [List.length_map] at *; omega
  obtain ⟨o, ho⟩ : ∃ o, o = ofR p := ⟨_, rfl⟩
  have HF : Hid (findM (ls.map Prod.fst) p = if o.1 = 2 then fnd (ls.map Prod.fst) o.2.1 0 else none) := by unfold Hid findM; rw [ho]
  rw [← ho] at C1
  obtain ⟨k, n, t⟩ := o
  simp only at C1 HF
  unfold SVal at C1
  clear ho h
  go_enter Try.func45, Try.ntmps45
  go_wp2_with (go_at_call 53; with_reducible refine (C1.out _).mono ?_; rintro e wa ⟨rfl, ba⟩; have HBA := hid ba; clear ba)
  have bX := Ba wa (.cells #[.int .i64 k, .int .i64 n, .int .i64 t] 77)
  have hx := blk_new wa #[.int .i64 k, .int .i64 n, .int .i64 t] 77
  obtain ⟨gs, hgs⟩ : ∃ q, q = wa.heap.size := ⟨_, rfl⟩
  rw [← hgs] at hx
  rw [← hgs]
  clear hgs
  generalize wa.alloc (.cells #[.int .i64 k, .int .i64 n, .int .i64 t] 77) = W at *
  have HBW := hid (Bt HBA.out bX)
  have HW := hid (H.out.on (Bt HBA.out bX))
  have HX := hid hx
  clear bX hx
  go_loopw [6] (fun i wr => ∃ q : Nat, q ≤ ls.length ∧ i = .int .i64 q ∧ Hid (Below W.heap.size W wr) ∧ Hid (k = 2 → fnd (ls.map Prod.fst) n 0 = fnd (ls.map Prod.fst) n q)) (fun i _ => ls.length - (intOf i).toNat)
  case atStart => exact ⟨0, Nat.zero_le _, rfl, Below.refl _ _, fun _ => rfl⟩
  case round =>
    obtain ⟨q, hq, rfl, hb, hT⟩ := hrel
    have hx1 := (hb.out.block gs (Array.getElem?_eq_some_iff.1 HX.out).1).trans HX.out
    have d0 : wr.cell? ⟨gs, 0, none⟩ = some (.int .i64 k) := blk_cell hx1 0
    have d1 : wr.cell? ⟨gs, 1, none⟩ = some (.int .i64 n) := blk_cell hx1 1
    have hR := HW.out.on hb.out
    have c1 : wr.cell? ⟨g, 1, none⟩ = some vL := blk_cell hR.box 1
    have HBR := hid (Bt HBW.out hb.out)
    clear hx1
    by_cases h2 : k = 2
    · have e2 : (k == 2) = true := by simpa using h2
      by_cases hlt : q < ls.length
      · obtain ⟨x, hx⟩ : ∃ x, x = ls.getD q default := ⟨_, rfl⟩
        obtain ⟨gl, cap, hv, hc1, hc2, j0, j1, j2⟩ := hR.obj hlt hx
        obtain rfl := hv
        have hfn : Hid (fnd (ls.map Prod.fst) n q = if (atO (ls.map Prod.fst) q : Int) = n then some q else fnd (ls.map Prod.fst) n (q + 1)) := by unfold Hid; rw [fnd, if_pos (by rw [List.length_map]; omega)]
        rw [atI_eq] at j0
        obtain ⟨am, ham⟩ : ∃ a, a = atO (ls.map Prod.fst) q := ⟨_, rfl⟩
        rw [← ham] at j0 hfn
        unfold maxLen at hc2
        clear hR hx j1 j2 ham
        by_cases hn : (am : Int) = n
        · have en : ((am : Int) == n) = true := by simpa using hn
          go_wp2_with fail
          go_quiet (fail)
          go_wp2_with fail
          go_ret
          refine ⟨?_, Bt HBR.out (Bd wr _)⟩
          rw [HF.out, if_pos h2, hT.out h2, hfn.out, if_pos hn]
          rfl
        · have en : ((am : Int) == n) = false := by simpa using hn
          go_wp2_with fail
          go_quiet (fail)
          go_wp2_with fail
          exact ⟨⟨q + 1, by omega, by go_num, Bt hb.out (Bd wr _), fun e => (hT.out e).trans (hfn.out.trans (if_neg hn))⟩, by simp [intOf] <;> omega⟩
      · obtain rfl : q = ls.length := by omega
        rcases hR.own.2 with ⟨rfl, _⟩ | ⟨gl, cap, cur, rfl, _⟩
        all_goals
          clear hR
          go_wp2_with fail
          go_ret
          refine ⟨?_, HBR.out⟩
          rw [HF.out, if_pos h2, hT.out h2, fnd, if_neg (by rw [List.length_map]; omega)]
          rfl
    · have e2 : (k == 2) = false := by simpa using h2
      clear hR
      go_wp2_with fail
      go_ret
      refine ⟨?_, HBR.out⟩
      rw [HF.out, if_neg h2]
      rfl
end
end Go.Proofs.Ythgkonjglappjaa
