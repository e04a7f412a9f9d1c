/-
  Walks, of the document's heap: field, Get, Set.
-/
import Derived.Test.YthgkonjglappjaaV1
set_option linter.unusedVariables false
set_option linter.unusedSimpArgs false
set_option maxRecDepth 100000
namespace Go.Proofs.Ythgkonjglappjaa
open Go.RowKit

/-- The number of the object that has the field, and what is wrong. -/
def fieldM (os : List Ob) (p kind i : Int) : Int × Int :=
  match findM os p with
  | none => (0, 70)
  | some n => if kind ≠ 0 ∧ (os.getD n default).kind ≠ kind then (0, 70) else if i < 0 ∨ ((os.getD n default).f.length : Int) ≤ i then (0, 2) else ((n : Int), 0)
def getM (os : List Ob) (p kind i : Int) : Int × Int :=
  if (fieldM os p kind i).2 = 0 then ((os.getD (fieldM os p kind i).1.toNat default).f.getD i.toNat 0, 0) else (0, (fieldM os p kind i).2)
theorem findM_lt {os : List Ob} {p : Int} {n : Nat} (h : findM os p = some n) : n < os.length ∧ (atO os n : Int) = (ofR p).2.1 := by
  unfold findM at h
  split at h
  · exact fnd_lt h
  · cases h
theorem fieldM_ok {os : List Ob} {p kind i : Int} (h : (fieldM os p kind i).2 = 0) : ∃ n : Nat, fieldM os p kind i = ((n : Int), 0) ∧ n < os.length ∧ findM os p = some n ∧ 0 ≤ i ∧ i < (os.getD n default).f.length := by
  unfold fieldM at h ⊢
  cases hf : findM os p with
  | none => rw [hf] at h; simp at h
  | some n =>
    rw [hf] at h
    simp only at h ⊢
    split at h
    · simp at h
    · rename_i h1
      split at h
      · simp at h
      · rename_i h2
        exact ⟨n, by rw [if_neg h1, if_neg h2], (findM_lt hf).1, rfl, by omega, by omega⟩
section
variable {B g : Nat} {N : Int} {vL : Value} {ls : List (Ob × Sl)}
set_option maxHeartbeats 4000000 in
theorem rfield_any (p kind i : Int) (hp : U64 p) (hk : Z64 kind) (hi : Z64 i) (w : World) (h : RH B g N vL ls w) : Calls Try.prog 55 #[.pointer (some ⟨g, 0, none⟩), .int .u64 p, .int .i64 kind, .int .i64 i] w fun e w' => e = .returned (.tuple #[.int .i64 (fieldM (ls.map Prod.fst) p kind i).1, .int .i64 (fieldM (ls.map Prod.fst) p kind i).2]) ∧ Below w.heap.size w w' := by
  have H := hid h
  have C1 := hid (rfind_any p hp w h)
  unfold Z64 at hk hi
  clear h
  cases hf : findM (ls.map Prod.fst) p with
  | none =>
    rw [hf] at C1
    have hm : fieldM (ls.map Prod.fst) p kind i = (0, 70) := by unfold fieldM; rw [hf]
    rw [hm]
    simp only [optI] at C1
    clear hm hf
    go_enter Try.func55, Try.ntmps55
    go_wp2_with (go_at_call 45; with_reducible refine C1.out.mono ?_; rintro e wa ⟨rfl, ba⟩)
    go_ret2
    exact ⟨rfl, ba⟩
  | some n =>
    rw [hf] at C1
    obtain ⟨hn, _⟩ := findM_lt hf
    rw [List.length_map] at hn
    have hm : Hid (fieldM (ls.map Prod.fst) p kind i = if kind ≠ 0 ∧ ((ls.map Prod.fst).getD n default).kind ≠ kind then (0, 70) else if i < 0 ∨ (((ls.map Prod.fst).getD n default).f.length : Int) ≤ i then (0, 2) else ((n : Int), 0)) := by unfold Hid fieldM; rw [hf]
    obtain ⟨x, hx⟩ : ∃ x, x = ls.getD n default := ⟨_, rfl⟩
    rw [← getD_fst, ← hx] at hm
    have hmem : x ∈ ls := by rw [hx]; exact getD_in_ob hn
    have hxl := (H.out.rows x hmem).2
    have hxk := H.out.kd x hmem
    simp only [optI] at C1
    clear hf
    obtain ⟨gl, cap, hv, hc1, hc2, _⟩ := H.out.obj hn hx
    obtain rfl := hv
    unfold maxLen at hc2
    have HC : Hid (∀ wa, Below w.heap.size w wa → wa.cell? ⟨g, 1, none⟩ = some (.slice (some ⟨gl, 0, none⟩) ls.length cap) ∧ wa.cell? ⟨gl, n * 3 + 1, none⟩ = some (.int .i64 x.1.kind) ∧ wa.cell? ⟨gl, n * 3 + 2, none⟩ = some (.slice x.2.1 x.2.2.1 x.2.2.2)) := fun wa ba => by
      have hR := H.out.on ba
      obtain ⟨gl', cap', hv', _, _, j0, j1, j2⟩ := hR.obj hn hx
      cases hv'
      exact ⟨blk_cell hR.box 1, j1, j2⟩
    obtain ⟨⟨xk, xf⟩, xa, xn, xc⟩ := x
    simp only at hm hxl hxk HC
    have HXL := hid hxl
    subst hxl
    clear hmem hx
    go_enter Try.func55, Try.ntmps55
    by_cases hk0 : kind = 0
    · subst hk0
      have hm2 := hid (hm.out.trans (if_neg (by simp)))
      by_cases hi0 : i < 0
      · have hm3 := hm2.out.trans (if_pos (.inl hi0))
        rw [hm3]
        clear hm hm2 hm3
        go_wp2_with (go_at_call 45; with_reducible refine C1.out.mono ?_; rintro e wa ⟨rfl, ba⟩; obtain ⟨c1, c2, c3⟩ := HC.out wa ba)
        go_ret2
        exact ⟨rfl, ba⟩
      · by_cases hi1 : (xf.length : Int) ≤ i
        · have hm3 := hm2.out.trans (if_pos (.inr hi1))
          rw [hm3]
          clear hm hm2 hm3
          go_wp2_with (go_at_call 45; with_reducible refine C1.out.mono ?_; rintro e wa ⟨rfl, ba⟩; obtain ⟨c1, c2, c3⟩ := HC.out wa ba)
          go_ret2
          exact ⟨rfl, ba⟩
        · have hm3 := hm2.out.trans (if_neg (by omega))
          rw [hm3]
          clear hm hm2 hm3
          go_wp2_with (go_at_call 45; with_reducible refine C1.out.mono ?_; rintro e wa ⟨rfl, ba⟩; obtain ⟨c1, c2, c3⟩ := HC.out wa ba)
          go_ret2
          exact ⟨rfl, ba⟩
    · have ek0 : (kind == 0) = false := by simpa using hk0
      by_cases hkk : xk = kind
      · subst hkk
        have ekk : (xk == xk) = true := by simp
        have hm2 := hid (hm.out.trans (if_neg (by simp)))
        by_cases hi0 : i < 0
        · have hm3 := hm2.out.trans (if_pos (.inl hi0))
          rw [hm3]
          clear hm hm2 hm3
          go_wp2_with (go_at_call 45; with_reducible refine C1.out.mono ?_; rintro e wa ⟨rfl, ba⟩; obtain ⟨c1, c2, c3⟩ := HC.out wa ba)
          go_ret2
          exact ⟨rfl, ba⟩
        · by_cases hi1 : (xf.length : Int) ≤ i
          · have hm3 := hm2.out.trans (if_pos (.inr hi1))
            rw [hm3]
            clear hm hm2 hm3
            go_wp2_with (go_at_call 45; with_reducible refine C1.out.mono ?_; rintro e wa ⟨rfl, ba⟩; obtain ⟨c1, c2, c3⟩ := HC.out wa ba)
            go_ret2
            exact ⟨rfl, ba⟩
          · have hm3 := hm2.out.trans (if_neg (by omega))
            rw [hm3]
            clear hm hm2 hm3
            go_wp2_with (go_at_call 45; with_reducible refine C1.out.mono ?_; rintro e wa ⟨rfl, ba⟩; obtain ⟨c1, c2, c3⟩ := HC.out wa ba)
            go_ret2
            exact ⟨rfl, ba⟩
      · have ekk : (xk != kind) = true := by simpa using hkk
        have ek1 : (kind != 0) = true := by simpa using hk0
        have hm3 := hm.out.trans (if_pos ⟨hk0, hkk⟩)
        rw [hm3]
        clear hm hm3
        go_wp2_with (go_at_call 45; with_reducible refine C1.out.mono ?_; rintro e wa ⟨rfl, ba⟩; obtain ⟨c1, c2, c3⟩ := HC.out wa ba)
        all_goals first
          | (exfalso; omega)
          | (exfalso; simp_all; done)
          | (go_ret2; exact ⟨rfl, ba⟩)
end

section
variable {B g : Nat} {N : Int} {vL : Value} {ls : List (Ob × Sl)}
theorem owned_cell {w : World} {B : Nat} {e : TypeId} {v : Value} {l : List Int} (h : w.ownsRow B e 1 v l.length (uz l)) {i : Nat} (hi : i < l.length) :
    ∃ gr cap, v = .slice (some ⟨gr, 0, none⟩) l.length cap ∧ B ≤ gr ∧ l.length ≤ cap ∧ cap ≤ maxLen ∧ w.cell? ⟨gr, i, none⟩ = some (.int .u64 (l.getD i 0)) ∧ w.frozen? ⟨gr, i, none⟩ = false := by
  rcases h.2 with ⟨h0, h1⟩ | ⟨gr, cap, cur, h1, h2, h3, h4, h5, h6, h7⟩
  · omega
  · refine ⟨gr, cap, h1, h2, h4, h5, ?_, blk_free h3 i⟩
    rw [blk_cell h3]
    have : cur[i]? = (uz l)[i]? := by rw [← h7, List.getElem?_take, if_pos (by omega)]; simp
    rw [this, uz_get hi]
end
end Go.Proofs.Ythgkonjglappjaa
