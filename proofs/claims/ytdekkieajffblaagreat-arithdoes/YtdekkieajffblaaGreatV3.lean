/-
  Walks, of the document's heap: Set.
-/
import Derived.Test.YtdekkieajffblaaGreatV0
import Derived.Deep.RegionHeld3
import Derived.BigQuiet
import Derived.Deep.QuietTactic
set_option linter.unusedVariables false
set_option linter.unusedSimpArgs false
set_option maxRecDepth 100000
namespace Go.Proofs.YtdekkieajffblaaGreat
open Go.RowKit

def atO (os : List Ob) (i : Nat) : Nat := usedL (os.take i)
theorem atI_eq (ls : List (Ob × Sl)) (i : Nat) : atI ls i = atO (ls.map Prod.fst) i := by unfold atI atO; rw [List.map_take]
theorem getD_fst (ls : List (Ob × Sl)) (i : Nat) : (ls.getD i default).1 = (ls.map Prod.fst).getD i default := by
  rw [List.getD_eq_getElem?_getD, List.getD_eq_getElem?_getD, List.getElem?_map]
  cases h : ls[i]? <;> rfl
theorem used_last {os : List Ob} (h : 0 < os.length) : atO os (os.length - 1) + 1 + (os.getD (os.length - 1) default).f.length = usedL os := by
  have e : os = os.take (os.length - 1) ++ [os.getD (os.length - 1) default] := by
    conv => lhs; rw [← List.take_append_drop (os.length - 1) os]
    congr 1
    rw [List.drop_eq_getElem_cons (by omega), List.getD_eq_getElem?_getD, List.getElem?_eq_getElem (by omega)]
    rw [List.drop_eq_nil_of_le (by omega)]; rfl
  conv => rhs; rw [e, usedL_append]
  simp [usedL, atO]; omega
theorem used_take_le (os : List Ob) (i : Nat) : atO os i ≤ usedL os := by
  have : usedL os = usedL (os.take i) + usedL (os.drop i) := by rw [← usedL_append, List.take_append_drop]
  unfold atO; omega
theorem used_mem {os : List Ob} {x : Ob} (h : x ∈ os) : 1 + x.f.length ≤ usedL os := by
  induction os with
  | nil => cases h
  | cons y l ih =>
    rcases List.mem_cons.1 h with rfl | h
    · unfold usedL; omega
    · have := ih h; unfold usedL; omega
theorem len_le_used (os : List Ob) : os.length ≤ usedL os := by
  induction os with
  | nil => simp
  | cons x l ih => simp only [List.length_cons, usedL]; omega

theorem h2_on {w1 wx wy : World} {p : Nat} {a0 : Value} (h : wx.cell? ⟨p, 0, none⟩ = some a0 ∧ Below w1.heap.size w1 wx) (hb : Below wx.heap.size wx wy) : wy.cell? ⟨p, 0, none⟩ = some a0 ∧ Below w1.heap.size w1 wy := ⟨(hb.cell (p := ⟨p, 0, none⟩) (cell_lt h.1)).trans h.1, Bt h.2 hb⟩
theorem h2_bel {w1 wx : World} {p : Nat} {a0 : Value} (h : wx.cell? ⟨p, 0, none⟩ = some a0 ∧ Below w1.heap.size w1 wx) : Below w1.heap.size w1 wx := h.2
section
variable {B g : Nat} {N : Int} {vL : Value} {ls : List (Ob × Sl)}
set_option maxHeartbeats 4000000 in
theorem rused_any (w : World) (h : RH B g N vL ls w) : Calls Tryz.prog 21 #[.pointer (some ⟨g, 0, none⟩)] w fun e w' => e = .returned (.int .i64 (usedL (ls.map Prod.fst) : Nat)) ∧ Below w.heap.size w w' := by
  have H := hid h
  have c1 : w.cell? ⟨g, 1, none⟩ = some vL := blk_cell h.box 1
  have hrm := h.room
  by_cases h0 : ls.length = 0
  · rcases h.own.2 with ⟨rfl, _⟩ | ⟨gl, cap, cur, rfl, _⟩
    · clear h
      have hl : ls = [] := List.length_eq_zero_iff.1 h0
      subst hl
      go_enter Tryz.func21, Tryz.ntmps21
      go_wp2
      go_ret
      exact ⟨rfl, Below.refl _ _⟩
    · clear h
      have hl : ls = [] := List.length_eq_zero_iff.1 h0
      subst hl
      go_enter Tryz.func21, Tryz.ntmps21
      go_wp2
      go_ret
      exact ⟨rfl, Below.refl _ _⟩
  · obtain ⟨x, hx⟩ : ∃ x, x = ls.getD (ls.length - 1) default := ⟨_, rfl⟩
    obtain ⟨gl, cap, rfl, hc1, hc2, j0, j1, j2⟩ := h.obj (i := ls.length - 1) (by omega) hx
    have hmem : x ∈ ls := by rw [hx]; exact getD_in_ob (by omega)
    have hul := used_last (os := ls.map Prod.fst) (by rw [List.length_map]; omega)
    rw [List.length_map, ← atI_eq, ← getD_fst, ← hx] at hul
    have hxn := (h.rows x hmem).2
    obtain ⟨⟨xk, xf⟩, xa, xn, xc⟩ := x
    simp only at j0 j1 j2 hul hxn
    have hgl : g < w.heap.size := (Array.getElem?_eq_some_iff.1 h.box).1
    have hgl2 : gl < w.heap.size := cell_lt j0
    obtain ⟨m, hm⟩ : ∃ m, m = ls.length - 1 := ⟨_, rfl⟩
    rw [← hm] at j0 j1 j2 hul
    have hm' : ls.length = m + 1 := by omega
    have HLL := hid hm'
    unfold maxLen at hc2
    obtain ⟨am, ham⟩ : ∃ a, a = atI ls m := ⟨_, rfl⟩
    rw [← ham] at j0 hul
    obtain ⟨U, hU⟩ : ∃ u, u = usedL (ls.map Prod.fst) := ⟨_, rfl⟩
    rw [← hU] at hul hrm ⊢
    rw [hm'] at c1 hc1
    clear h H hx hmem hm ham hU h0
    generalize ls.length = LL at *
    have k0 : ∀ ob, (w.alloc ob).cell? ⟨g, 1, none⟩ = some (.slice (some ⟨gl, 0, none⟩) (m + 1) cap) := fun ob => (cell_old _ _ _ _ hgl).trans c1
    have k1 : ∀ ob, (w.alloc ob).cell? ⟨gl, m * 3, none⟩ = some (.int .i64 (am : Nat)) := fun ob => (cell_old _ _ _ _ hgl2).trans j0
    have k2 : ∀ ob, (w.alloc ob).cell? ⟨gl, m * 3 + 1, none⟩ = some (.int .i64 xk) := fun ob => (cell_old _ _ _ _ hgl2).trans j1
    have k3 : ∀ ob, (w.alloc ob).cell? ⟨gl, m * 3 + 2, none⟩ = some (.slice xa xn xc) := fun ob => (cell_old _ _ _ _ hgl2).trans j2
    go_enter Tryz.func21, Tryz.ntmps21
    go_wp2
    go_region
    go_wp2
    go_ret
    exact ⟨by rw [show ((U : Nat) : Int) = (am : Int) + 1 + xf.length by omega]; rfl, Bt (Ba w _) (Bd _ 1)⟩

set_option maxHeartbeats 4000000 in
theorem rroom_any (w : World) (h : RH B g N vL ls w) : Calls Tryz.prog 30 #[.pointer (some ⟨g, 0, none⟩)] w fun e w' => e = .returned (.int .i64 (N - (usedL (ls.map Prod.fst) : Nat))) ∧ Below w.heap.size w w' := by
  have H := hid h
  have hrm := h.room
  have c0 : w.cell? ⟨g, 0, none⟩ = some (.int .i64 N) := blk_cell h.box 0
  have hgl : g < w.heap.size := (Array.getElem?_eq_some_iff.1 h.box).1
  have C1 : Hid (∀ wx, Below w.heap.size w wx → Calls Tryz.prog 21 #[.pointer (some ⟨g, 0, none⟩)] wx fun e w' => e = .returned (.int .i64 (usedL (ls.map Prod.fst) : Nat)) ∧ Below wx.heap.size wx w') := fun wx b => rused_any wx (H.out.on b)
  obtain ⟨U, hU⟩ : ∃ u, u = usedL (ls.map Prod.fst) := ⟨_, rfl⟩
  rw [← hU] at C1 hrm ⊢
  clear h hU
  have HS0 : Hid (w.cell? ⟨g, 0, none⟩ = some (.int .i64 N) ∧ Below w.heap.size w w) := ⟨c0, Below.refl _ _⟩
  have hw1 : IntKind.i64.wrap (N - (U : Nat)) = N - (U : Nat) := by rw [IntKind.wrap_i64]; omega
  go_enter Tryz.func30, Tryz.ntmps30
  go_wp2_with fail
  go_region_held3 (fun wx => wx.cell? ⟨g, 0, none⟩ = some (.int .i64 N) ∧ Below w.heap.size w wx)
    (first | exact h2_on HS0.out (Bd w 1) | exact h2_on (by assumption) (by assumption))
    (first | (go_at_call 21; with_reducible refine (C1.out _ ?_).mono ?_; (exact h2_bel (p := g) (a0 := .int .i64 N) (by assumption)); rintro e wa ⟨rfl, ba⟩))
  have HBE : Hid (Below w.heap.size w wa) := h2_bel (p := g) (a0 := .int .i64 N) (by assumption)
  rename_i hHeld
  clear hHeld
  go_wp2
  go_ret
  exact ⟨rfl, HBE.out⟩
end

set_option maxHeartbeats 4000000 in
theorem ishead_any (x : Int) (hx : U64 x) (w : World) : Calls Tryz.prog 61 #[.int .u64 x] w fun e w' => e = .returned (.bool (decide ((ofR x).1 = 8))) ∧ Below w.heap.size w w' := by
  have C1 := hid (rof_any x hx)
  obtain ⟨o, ho⟩ : ∃ o, o = ofR x := ⟨_, rfl⟩
  rw [← ho] at C1 ⊢
  obtain ⟨k, n, t⟩ := o
  simp only at C1 ⊢
  unfold SVal at C1
  clear ho
  have hfd : ∀ w, (Instr.field 78 (.agg #[.int .i64 k, .int .i64 n, .int .i64 t]) 0).run Tryz.prog w = .ok (.int .i64 k) w := fun w => rfl
  go_enter Tryz.func61, Tryz.ntmps61
  go_wp2_with (go_at_call 39; with_reducible refine (C1.out _).mono ?_; rintro e wa ⟨rfl, ba⟩)
  go_ret
  refine ⟨?_, ba⟩
  by_cases hk : k = 8
  · subst hk; rfl
  · have e1 : (k == 8) = false := by simpa using hk
    simp [e1, hk]
set_option maxHeartbeats 4000000 in
theorem rptr_any (n : Nat) (hn : n ≤ 1099511627776) (w : World) : Calls Tryz.prog 62 #[.int .i64 n] w fun e w' => e = .returned (.int .u64 (wordR 2 n 0)) ∧ Below w.heap.size w w' := by
  have C1 := hid (rword_any 2 n 0 (by unfold Z64; omega) (by unfold Z64; omega) (by unfold Z64; omega))
  unfold SVal at C1
  go_enter Tryz.func62, Tryz.ntmps62
  go_wp2_with (go_at_call 48; with_reducible refine (C1.out _).mono ?_; rintro e wa ⟨rfl, ba⟩)
  go_ret
  exact ⟨rfl, ba⟩

/-- The first object at a place, from number i on. -/
def fnd (os : List Ob) (n : Int) (i : Nat) : Option Nat := if i < os.length then (if (atO os i : Int) = n then some i else fnd os n (i + 1)) else none
termination_by os.length - i
def findM (os : List Ob) (p : Int) : Option Nat := if (ofR p).1 = 2 then fnd os (ofR p).2.1 0 else none
def optI : Option Nat → Int
  | some i => i
  | none => -1
theorem fnd_lt {os : List Ob} {n : Int} {i j : Nat} (h : fnd os n i = some j) : j < os.length ∧ (atO os j : Int) = n := by
  induction hk : os.length - i generalizing i with
  | zero => rw [fnd, if_neg (by omega)] at h; cases h
  | succ k ih =>
    rw [fnd, if_pos (by omega)] at h
    split at h
    · injection h with h; subst h; exact ⟨by omega, by assumption⟩
    · exact ih h (by omega)
section
variable {B g : Nat} {N : Int} {vL : Value} {ls : List (Ob × Sl)}
set_option maxHeartbeats 4000000 in
theorem rfind_any (p : Int) (hp : U64 p) (w : World) (h : RH B g N vL ls w) : Calls Tryz.prog 40 #[.pointer (some ⟨g, 0, none⟩), .int .u64 p] w fun e w' => e = .returned (.int .i64 (optI (findM (ls.map Prod.fst) p))) ∧ Below w.heap.size w w' := by
  have H := hid h
  have C1 := hid (rof_any p hp)
  have hlen : ls.length ≤ 1099511627776 := by have := len_le_used (ls.map Prod.fst); have := h.room; rw [List.length_map] at *; omega
  obtain ⟨o, ho⟩ : ∃ o, o = ofR p := ⟨_, rfl⟩
  have HF : Hid (findM (ls.map Prod.fst) p = if o.1 = 2 then fnd (ls.map Prod.fst) o.2.1 0 else none) := by unfold Hid findM; rw [ho]
  rw [← ho] at C1
  obtain ⟨k, n, t⟩ := o
  simp only at C1 HF
  unfold SVal at C1
  clear ho h
  go_enter Tryz.func40, Tryz.ntmps40
  go_wp2_with (go_at_call 39; with_reducible refine (C1.out _).mono ?_; rintro e wa ⟨rfl, ba⟩; have HBA := hid ba; clear ba)
  have bX := Ba wa (.cells #[.int .i64 k, .int .i64 n, .int .i64 t] 78)
  have hx := blk_new wa #[.int .i64 k, .int .i64 n, .int .i64 t] 78
  obtain ⟨gs, hgs⟩ : ∃ q, q = wa.heap.size := ⟨_, rfl⟩
  rw [← hgs] at hx
  rw [← hgs]
  clear hgs
  generalize wa.alloc (.cells #[.int .i64 k, .int .i64 n, .int .i64 t] 78) = W at *
  have HBW := hid (Bt HBA.out bX)
  have HW := hid (H.out.on (Bt HBA.out bX))
  have HX := hid hx
  clear bX hx
  go_loopw [6] (fun i wr => ∃ q : Nat, q ≤ ls.length ∧ i = .int .i64 q ∧ Hid (Below W.heap.size W wr) ∧ Hid (k = 2 → fnd (ls.map Prod.fst) n 0 = fnd (ls.map Prod.fst) n q)) (fun i _ => ls.length - (intOf i).toNat)
  case atStart => exact ⟨0, Nat.zero_le _, rfl, Below.refl _ _, fun _ => rfl⟩
  case round =>
    obtain ⟨q, hq, rfl, hb, hT⟩ := hrel
    have hx1 := (hb.out.block gs (Array.getElem?_eq_some_iff.1 HX.out).1).trans HX.out
    have d0 : wr.cell? ⟨gs, 0, none⟩ = some (.int .i64 k) := blk_cell hx1 0
    have d1 : wr.cell? ⟨gs, 1, none⟩ = some (.int .i64 n) := blk_cell hx1 1
    have hR := HW.out.on hb.out
    have c1 : wr.cell? ⟨g, 1, none⟩ = some vL := blk_cell hR.box 1
    have HBR := hid (Bt HBW.out hb.out)
    clear hx1
    by_cases h2 : k = 2
    · have e2 : (k == 2) = true := by simpa using h2
      by_cases hlt : q < ls.length
      · obtain ⟨x, hx⟩ : ∃ x, x = ls.getD q default := ⟨_, rfl⟩
        obtain ⟨gl, cap, hv, hc1, hc2, j0, j1, j2⟩ := hR.obj hlt hx
        obtain rfl := hv
        have hfn : Hid (fnd (ls.map Prod.fst) n q = if (atO (ls.map Prod.fst) q : Int) = n then some q else fnd (ls.map Prod.fst) n (q + 1)) := by unfold Hid; rw [fnd, if_pos (by rw [List.length_map]; omega)]
        rw [atI_eq] at j0
        obtain ⟨am, ham⟩ : ∃ a, a = atO (ls.map Prod.fst) q := ⟨_, rfl⟩
        rw [← ham] at j0 hfn
        unfold maxLen at hc2
        clear hR hx j1 j2 ham
        by_cases hn : (am : Int) = n
        · have en : ((am : Int) == n) = true := by simpa using hn
          go_wp2_with fail
          go_quiet (fail)
          go_wp2_with fail
          go_ret
          refine ⟨?_, Bt HBR.out (Bd wr _)⟩
          rw [HF.out, if_pos h2, hT.out h2, hfn.out, if_pos hn]
          rfl
        · have en : ((am : Int) == n) = false := by simpa using hn
          go_wp2_with fail
          go_quiet (fail)
          go_wp2_with fail
          exact ⟨⟨q + 1, by omega, by go_num, Bt hb.out (Bd wr _), fun e => (hT.out e).trans (hfn.out.trans (if_neg hn))⟩, by simp [intOf] <;> omega⟩
      · obtain rfl : q = ls.length := by omega
        rcases hR.own.2 with ⟨rfl, _⟩ | ⟨gl, cap, cur, rfl, _⟩
        all_goals
          clear hR
          go_wp2_with fail
          go_ret
          refine ⟨?_, HBR.out⟩
          rw [HF.out, if_pos h2, hT.out h2, fnd, if_neg (by rw [List.length_map]; omega)]
          rfl
    · have e2 : (k == 2) = false := by simpa using h2
      clear hR
      go_wp2_with fail
      go_ret
      refine ⟨?_, HBR.out⟩
      rw [HF.out, if_neg h2]
      rfl
end
end Go.Proofs.YtdekkieajffblaaGreat

set_option linter.unusedVariables false
set_option linter.unusedSimpArgs false
set_option maxRecDepth 100000
namespace Go.Proofs.YtdekkieajffblaaGreat
open Go.RowKit

/-- The number of the object that has the field, and what is wrong. -/
def fieldM (os : List Ob) (p kind i : Int) : Int × Int :=
  match findM os p with
  | none => (0, 70)
  | some n => if kind ≠ 0 ∧ (os.getD n default).kind ≠ kind then (0, 70) else if i < 0 ∨ ((os.getD n default).f.length : Int) ≤ i then (0, 2) else ((n : Int), 0)
def getM (os : List Ob) (p kind i : Int) : Int × Int :=
  if (fieldM os p kind i).2 = 0 then ((os.getD (fieldM os p kind i).1.toNat default).f.getD i.toNat 0, 0) else (0, (fieldM os p kind i).2)
theorem findM_lt {os : List Ob} {p : Int} {n : Nat} (h : findM os p = some n) : n < os.length ∧ (atO os n : Int) = (ofR p).2.1 := by
  unfold findM at h
  split at h
  · exact fnd_lt h
  · cases h
theorem fieldM_ok {os : List Ob} {p kind i : Int} (h : (fieldM os p kind i).2 = 0) : ∃ n : Nat, fieldM os p kind i = ((n : Int), 0) ∧ n < os.length ∧ findM os p = some n ∧ 0 ≤ i ∧ i < (os.getD n default).f.length := by
  unfold fieldM at h ⊢
  cases hf : findM os p with
  | none => rw [hf] at h; simp at h
  | some n =>
    rw [hf] at h
    simp only at h ⊢
    split at h
    · simp at h
    · rename_i h1
      split at h
      · simp at h
      · rename_i h2
        exact ⟨n, by rw [if_neg h1, if_neg h2], (findM_lt hf).1, rfl, by omega, by omega⟩
section
variable {B g : Nat} {N : Int} {vL : Value} {ls : List (Ob × Sl)}
end

section
variable {B g : Nat} {N : Int} {vL : Value} {ls : List (Ob × Sl)}
theorem owned_cell {w : World} {B : Nat} {e : TypeId} {v : Value} {l : List Int} (h : w.ownsRow B e 1 v l.length (uz l)) {i : Nat} (hi : i < l.length) :
    ∃ gr cap, v = .slice (some ⟨gr, 0, none⟩) l.length cap ∧ B ≤ gr ∧ l.length ≤ cap ∧ cap ≤ maxLen ∧ w.cell? ⟨gr, i, none⟩ = some (.int .u64 (l.getD i 0)) ∧ w.frozen? ⟨gr, i, none⟩ = false := by
  rcases h.2 with ⟨h0, h1⟩ | ⟨gr, cap, cur, h1, h2, h3, h4, h5, h6, h7⟩
  · omega
  · refine ⟨gr, cap, h1, h2, h4, h5, ?_, blk_free h3 i⟩
    rw [blk_cell h3]
    have : cur[i]? = (uz l)[i]? := by rw [← h7, List.getElem?_take, if_pos (by omega)]; simp
    rw [this, uz_get hi]
end
end Go.Proofs.YtdekkieajffblaaGreat

set_option linter.unusedVariables false
set_option linter.unusedSimpArgs false
set_option maxRecDepth 100000
namespace Go.Proofs.YtdekkieajffblaaGreat
open Go.RowKit

/-- An object with one field set. -/
def setF (x : Ob) (j : Nat) (z : Int) : Ob := { x with f := x.f.set j z }
def setM (os : List Ob) (p kind i z : Int) : List Ob × Int :=
  if (fieldM os p kind i).2 ≠ 0 then (os, (fieldM os p kind i).2)
  else if (ofR z).1 = 8 then (os, 1)
  else (os.set (fieldM os p kind i).1.toNat (setF (os.getD (fieldM os p kind i).1.toNat default) i.toNat z), 0)
theorem uset {w : World} {base : Nat} {e : TypeId} {g n cap : Nat} {l : List Int} (h : w.ownsRow base e 1 (.slice (some ⟨g, 0, none⟩) n cap) n (uz l)) {k : Nat} (z : Int) : (w.setCell ⟨g, k, none⟩ (.int .u64 z)).ownsRow base e 1 (.slice (some ⟨g, 0, none⟩) n cap) n (uz (l.set k z)) := by
  have e1 : uz (l.set k z) = (uz l).set k (.int .u64 z) := by simp [uz, List.map_set]
  rw [e1]
  refine ⟨by rw [List.length_set]; exact h.1, ?_⟩
  rcases h.2 with ⟨h0, _⟩ | ⟨g', cap', cur, h1, h2, h3, h4, h5, h6, h7⟩
  · cases h0
  · cases h1
    refine .inr ⟨g, cap, cur.setIfInBounds k (.int .u64 z), rfl, h2, blk_set (i := k) h3 _, h4, h5, by simpa using h6, ?_⟩
    rw [← h7, Array.toList_setIfInBounds, List.take_set]
theorem ocs_set (y : Ob × Sl) : ∀ (l : List (Ob × Sl)) (a n : Nat), n < l.length → y.1.kind = (l.getD n default).1.kind → y.1.f.length = (l.getD n default).1.f.length → y.2 = (l.getD n default).2 → ocs a (l.set n y) = ocs a l
  | [], _, _, h, _, _, _ => by simp at h
  | x :: l, a, 0, _, h1, h2, h3 => by
    simp only [List.getD_cons_zero] at h1 h2 h3
    simp only [List.set_cons_zero, ocs, oc, h1, h2, h3]
  | x :: l, a, n + 1, h, h1, h2, h3 => by
    simp only [List.getD_cons_succ] at h1 h2 h3
    simp only [List.set_cons_succ, ocs]
    rw [ocs_set y l _ n (by simpa using h) h1 h2 h3]
theorem used_set (y : Ob) : ∀ (l : List Ob) (n : Nat), n < l.length → y.f.length = (l.getD n default).f.length → usedL (l.set n y) = usedL l
  | [], _, h, _ => by simp at h
  | x :: l, 0, _, h2 => by simp only [List.getD_cons_zero] at h2; simp only [List.set_cons_zero, usedL, h2]
  | x :: l, n + 1, h, h2 => by
    simp only [List.getD_cons_succ] at h2
    simp only [List.set_cons_succ, usedL]
    rw [used_set y l n (by simpa using h) h2]
section
variable {B g : Nat} {N : Int} {vL : Value} {ls : List (Ob × Sl)}
theorem mem_set_cases {α : Type} {l : List α} {n : Nat} {y x : α} (h : x ∈ l.set n y) : x = y ∨ ∃ m, ∃ hm : m < l.length, m ≠ n ∧ x = l[m] := by
  obtain ⟨m, hm, rfl⟩ := List.mem_iff_getElem.1 h
  rw [List.getElem_set]
  by_cases e : n = m
  · left; rw [if_pos e]
  · right; rw [if_neg e]; exact ⟨m, by simpa using hm, fun e' => e e'.symm, rfl⟩
/-- A field is set where it lies. -/
theorem RH.set {w : World} (h : RH B g N vL ls w) {n j : Nat} (hn : n < ls.length) {x : Ob × Sl} (hx : x = ls.getD n default) (hj : j < x.1.f.length) {gr cr : Nat} (hr : x.2.1 = some ⟨gr, 0, none⟩) {z : Int} (hz : U64 z) :
    RH B g N vL (ls.set n (setF x.1 j z, x.2)) (w.setCell ⟨gr, j, none⟩ (.int .u64 z)) ∧ (∀ b, RF g vL (ls.set n (setF x.1 j z, x.2)) b ↔ RF g vL ls b) := by
  have hmem : x ∈ ls := by rw [hx]; exact getD_in_ob hn
  have hxe : ls[n] = x := by rw [hx, List.getD_eq_getElem?_getD, List.getElem?_eq_getElem hn]; rfl
  have hao := h.ao x hmem _ hr
  have hsnd : (ls.set n (setF x.1 j z, x.2)).map Prod.snd = ls.map Prod.snd := by
    rw [List.map_set]
    have e : (ls.map Prod.snd)[n]'(by simpa using hn) = x.2 := by simp [hxe]
    simp only []
    rw [← e]
    exact List.set_getElem_self _
  have hset : ∀ y ∈ ls.set n (setF x.1 j z, x.2), ∃ y' ∈ ls, y.2 = y'.2 ∧ y.1.kind = y'.1.kind := fun y hy => by
    rcases mem_set_cases hy with rfl | ⟨m, hm, _, rfl⟩
    · exact ⟨x, hmem, rfl, rfl⟩
    · exact ⟨ls[m], List.getElem_mem hm, rfl, rfl⟩
  have hfoot : ∀ b, RF g vL (ls.set n (setF x.1 j z, x.2)) b ↔ RF g vL ls b := fun b => by
    have key : (∃ y ∈ ls.set n (setF x.1 j z, x.2), ∃ a, y.2.1 = some a ∧ a.block = b) ↔ (∃ y ∈ ls, ∃ a, y.2.1 = some a ∧ a.block = b) := by
      have e1 : ∀ l : List (Ob × Sl), (∃ y ∈ l, ∃ a, y.2.1 = some a ∧ a.block = b) ↔ (∃ s ∈ l.map Prod.snd, ∃ a, s.1 = some a ∧ a.block = b) := fun l => by
        constructor
        · rintro ⟨y, hy, a, ha⟩; exact ⟨y.2, List.mem_map.2 ⟨y, hy, rfl⟩, a, ha⟩
        · rintro ⟨s, hs, a, ha⟩; obtain ⟨y, hy, rfl⟩ := List.mem_map.1 hs; exact ⟨y, hy, a, ha⟩
      rw [e1, e1, hsnd]
    unfold RF; rw [key]
  refine ⟨⟨?_, ?_, ?_, ?_, ?_, h.gl, h.Bg, ?_, ?_, ?_⟩, hfoot⟩
  · exact (Below.heap_setCell w ⟨gr, j, none⟩ (.int .u64 z) g (fun e => hao.2 e.symm)).trans h.box
  · rw [List.length_set, ocs_set _ _ _ _ hn (by rw [← hx]; rfl) (by rw [← hx]; simp [setF]) (by rw [← hx])]
    exact own_at h.own (fun b e => Below.heap_setCell _ _ _ _ (fun e' => hao.1 (by rw [← e']; exact e)))
  · intro y hy
    rcases mem_set_cases hy with rfl | ⟨m, hm, hne, rfl⟩
    · obtain ⟨r1, r2⟩ := h.rows x hmem
      simp only [setF, List.length_set]
      rw [hr] at r1 ⊢
      rw [← r2] at r1 ⊢
      exact ⟨uset r1 z, rfl⟩
    · have hm' := List.getElem_mem hm
      refine ⟨own_at (h.rows _ hm').1 (fun b e => Below.heap_setCell _ _ _ _ (fun e' => ?_)), (h.rows _ hm').2⟩
      have ha : ∃ a : Addr, ls[m].2.1 = some a ∧ a.block = b := by
        cases e'' : ls[m].2.1 with
        | none => rw [e''] at e; cases e
        | some a => rw [e''] at e; exact ⟨a, rfl, by injection e⟩
      obtain ⟨a, ha1, ha2⟩ := ha
      have hp := List.pairwise_iff_getElem.1 h.apart
      rcases Nat.lt_or_gt_of_ne hne with hlt | hlt
      · have := hp m n hm hn hlt a ⟨gr, 0, none⟩ ha1 (by rw [hxe]; exact hr)
        exact this (ha2.trans e')
      · have := hp n m hn hm hlt ⟨gr, 0, none⟩ a (by rw [hxe]; exact hr) ha1
        exact this (ha2.trans e').symm
  · have e1 : ∀ l : List (Ob × Sl), l.Pairwise (fun x y => ∀ a a', x.2.1 = some a → y.2.1 = some a' → a.block ≠ a'.block) ↔ (l.map Prod.snd).Pairwise (fun x y => ∀ a a', x.1 = some a → y.1 = some a' → a.block ≠ a'.block) := fun l => by rw [List.pairwise_map]
    rw [e1, hsnd, ← e1]
    exact h.apart
  · intro y hy a ha
    obtain ⟨y', hy', e1, _⟩ := hset y hy
    exact h.ao y' hy' a (by rw [← e1]; exact ha)
  · intro y hy u hu
    rcases mem_set_cases hy with rfl | ⟨m, hm, _, rfl⟩
    · simp only [setF] at hu
      rcases List.mem_or_eq_of_mem_set hu with hu | rfl
      · exact h.uf x hmem u hu
      · exact hz
    · exact h.uf _ (List.getElem_mem hm) u hu
  · intro y hy
    obtain ⟨y', hy', _, e2⟩ := hset y hy
    rw [e2]; exact h.kd y' hy'
  · rw [List.map_set, used_set _ _ _ (by rw [List.length_map]; exact hn) (by rw [← getD_fst, ← hx]; simp [setF])]
    exact h.room

end
end Go.Proofs.YtdekkieajffblaaGreat
